package desk

import (
	"maps"
	"regexp"
	"slices"
	"strconv"
	"strings"
	"testing"

	"hasse/api"
	"hasse/canon"
	"hasse/chain"
	"hasse/extend"
	"hasse/level"
	"hasse/order"
	"hasse/samples"
	"hasse/scribe"
)

// lineForm: all that may stand in a line.
var lineForm = regexp.MustCompile(strings.ReplaceAll(`^(?:(put) (NAME) ([^ ]+)|(drop|show|rows|wide|long) (NAME)|(dual|alike) (NAME) (NAME)|(beside|over|times) (NAME) (NAME) (NAME)|(names))$`, "NAME", "[a-z]{1,8}"))

// model is a desk by the words of the chapter: of each name the text of its order.
type model map[string]string

// read the order of a name.
func (m model) read(name string) api.Order {
	o, _ := scribe.Read(m[name])
	return o
}

// run a line: what is answered, and what is wrong.
func (m model) run(line string) (string, api.Errno) {
	var words []string
	for _, word := range lineForm.FindStringSubmatch(line) {
		if word != "" {
			words = append(words, word)
		}
	}
	if words == nil {
		return "", api.ErrForm
	}
	words = words[1:]
	from := words[1:]
	switch words[0] {
	case "put":
		from = nil
	case "dual", "beside", "over", "times":
		from = words[2:]
	}
	for _, name := range from {
		if _, has := m[name]; !has {
			return "", api.ErrNone
		}
	}
	switch words[0] {
	case "put", "dual", "beside", "over", "times":
		return "", m.make(words)
	}
	return m.tell(words)
}

// make an order, and give it a name.
func (m model) make(words []string) api.Errno {
	var o api.Order
	var err api.Errno
	switch words[0] {
	case "put":
		var fault api.Fault
		o, fault = scribe.Read(strings.Join(strings.Split(words[2], ","), " "))
		err = fault.Err
	case "dual":
		o, err = order.Dual(m.read(words[2]))
	case "beside":
		o, err = order.Beside(m.read(words[2]), m.read(words[3]))
	case "over":
		o, err = order.Over(m.read(words[2]), m.read(words[3]))
	case "times":
		o, err = order.Times(m.read(words[2]), m.read(words[3]))
	}
	if err != api.OK {
		return err
	}
	if _, has := m[words[1]]; !has && len(m) == 8 {
		return api.ErrMany
	}
	m[words[1]], _ = scribe.Print(o)
	return api.OK
}

// tell something, or drop a name.
func (m model) tell(words []string) (string, api.Errno) {
	number, err := 0, api.OK
	switch words[0] {
	case "names":
		return strings.Join(slices.Sorted(maps.Keys(m)), " "), api.OK
	case "drop":
		delete(m, words[1])
		return "", api.OK
	case "show":
		return strings.Join(strings.Split(m[words[1]], " "), ","), api.OK
	case "alike":
		alike, err := canon.Alike(m.read(words[1]), m.read(words[2]))
		if err != api.OK {
			return "", err
		}
		return map[bool]string{true: "yes", false: "no"}[alike], api.OK
	case "rows":
		number, err = extend.Count(m.read(words[1]))
	case "wide":
		var parts [][]int
		parts, err = chain.Parts(m.read(words[1]))
		number = len(parts)
	case "long":
		var levels []int
		levels, err = level.Levels(m.read(words[1]))
		number = len(levels)
	}
	return strconv.Itoa(number), err
}

// desk of the model.
func (m model) desk() api.Desk {
	var d api.Desk
	for _, name := range slices.Sorted(maps.Keys(m)) {
		d.Names = append(d.Names, name)
		d.Orders = append(d.Orders, m.read(name))
	}
	return d
}

// drawnLine: most of them of their form; more names than there may be, and orders of few points and of many.
func drawnLine(draw *samples.Draw) string {
	pick := func(words ...string) string { return words[draw.Next(len(words))] }
	name := func() string { return pick("a", "b", "c", "d", "e", "f", "g", "h", "i", "zz", "abcdefgh") }
	text := func() string {
		return pick("0:", "1:", "1:", "2:", "2:,0<1", "2:,1<0", "3:,0<1", "3:,0<1,1<2", "3:,2<1", "4:,0<2,1<2,1<3", "6:", "7:,0<6", "10:,9<0", "11:", "2:,0<2", "2:,0<1,1<0", "2:,0", "x", ",")
	}
	words := []string{pick("put", "drop", "dual", "beside", "over", "times", "show", "rows", "wide", "long", "alike", "names", "put", "dual", "alike", "hello")}
	switch words[0] {
	case "put":
		words = append(words, name(), text())
	case "drop", "show", "rows", "wide", "long":
		words = append(words, name())
	case "dual", "alike":
		words = append(words, name(), name())
	case "beside", "over", "times":
		words = append(words, name(), name(), name())
	}
	if draw.Next(20) == 0 {
		place := draw.Next(len(words))
		words[place] = pick("", "A", " ", words[place]+" ", words[place]+"a", "abcdefghi", "\xff", "names", "put")
	}
	return strings.Join(words, " ")
}

func TestWhatIsAskedAtTheDeskIsWhatCallsSay(t *testing.T) {
	draw := new(samples.Draw)
	met := map[api.Errno]int{}
	answers := map[string]int{}
	for range 300 {
		d, m := api.Desk{}, model{}
		for range 100 {
			line := drawnLine(draw)
			next, answer, err := Run(d, line)
			wantAnswer, want := m.run(line)
			met[want]++
			answers[strings.Split(line, " ")[0]]++
			if err != want || answer != wantAnswer {
				t.Fatalf("Run(%v, %q): %q, error %d, want %q, error %d", d, line, answer, err, wantAnswer, want)
			}
			if err != api.OK {
				isRefused(t, d, line, want)
				continue
			}
			if !isSame(next, m.desk()) || Check(next) != api.OK {
				t.Fatalf("Run(%v, %q) = %v, want %v", d, line, next, m.desk())
			}
			onlyTheFirstNameMayChange(t, d, next, line)
			d = next
		}
	}
	for _, err := range []api.Errno{api.OK, api.ErrForm, api.ErrMany, api.ErrRange, api.ErrState, api.ErrNone} {
		if met[err] < 50 {
			t.Errorf("error %d is met %d times", err, met[err])
		}
	}
	for _, c := range commands {
		if answers[c.word] < 500 {
			t.Errorf("%s is asked %d times", c.word, answers[c.word])
		}
	}
}

// onlyTheFirstNameMayChange: by the words of DD4.
func onlyTheFirstNameMayChange(t *testing.T, before, after api.Desk, line string) {
	t.Helper()
	first := ""
	if words := strings.Split(line, " "); len(words) > 1 {
		first = words[1]
	}
	for _, way := range [][2]api.Desk{{before, after}, {after, before}} {
		for i, name := range way[0].Names {
			if name == first {
				continue
			}
			place := slices.Index(way[1].Names, name)
			if place < 0 || !isSameOrder(way[0].Orders[i], way[1].Orders[place]) {
				t.Fatalf("%q has changed %q: %v was %v", line, name, after, before)
			}
		}
	}
}

func TestTheTableHasEachCommandOnce(t *testing.T) {
	want := []string{"alike", "beside", "drop", "dual", "long", "names", "over", "put", "rows", "show", "times", "wide"}
	for _, table := range [][]command{commands, makeCommands()} {
		var got []string
		for _, c := range table {
			got = append(got, c.word)
			if 1+c.names+c.texts >= maxWords {
				t.Errorf("%s has more words than are looked at", c.word)
			}
		}
		slices.Sort(got)
		if !slices.Equal(got, want) {
			t.Errorf("the commands are %q", got)
		}
	}
}

// isSameCommand: functions cannot be held against each other, so both are run.
func isSameCommand(a, b command) bool {
	words := []string{"x", "c", "d"}
	if a.texts > 0 {
		words = []string{"x", "3:,0<1"}
	} else if !a.gives {
		words = []string{"e", "f"}
	}
	one, other := takeUp(full()), takeUp(full())
	answer, err := a.run(one, words)
	again, fault := b.run(other, words)
	return a.word == b.word && a.names == b.names && a.texts == b.texts && a.gives == b.gives && answer == again && err == api.OK && fault == api.OK && isSame(one.layDown(), other.layDown())
}

func TestTheTableIsWhatTheFunctionMakes(t *testing.T) {
	if !slices.EqualFunc(commands, makeCommands(), isSameCommand) {
		t.Error("the table of start-up is not what makeCommands makes")
	}
}

func TestP3AnswersHangOnNoTable(t *testing.T) {
	d, _ := run(t, full(), "drop h")
	lines := []string{"put x 3:,0<1", "drop a", "dual x e", "beside x c d", "over x c d", "times x c d", "show e", "rows e", "wide e", "long e", "alike c d", "names", "", "hello", "show", "show x", "put x 11:"}
	type told struct {
		d      api.Desk
		answer string
		err    api.Errno
	}
	ask := func() (all []told) {
		for _, line := range lines {
			next, answer, err := Run(d, line)
			all = append(all, told{next, answer, err})
		}
		return all
	}
	want := ask()
	kept := commands
	defer func() { commands = kept }()
	commands = nil
	for i, got := range ask() {
		if got.answer != want[i].answer || got.err != want[i].err || !isSame(got.d, want[i].d) {
			t.Errorf("%q: %v without a table, %v with it", lines[i], got, want[i])
		}
	}
}

func FuzzRun(f *testing.F) {
	for _, line := range []string{"", "names", "put x 3:,0<1", "over a b c", "alike c d", "drop h", "show \xff"} {
		f.Add(line)
	}
	f.Fuzz(func(t *testing.T, line string) {
		for _, d := range []api.Desk{{}, full(), deskOf("a b c", below(0), below(0, 1), crown())} {
			m := model{}
			for i, name := range d.Names {
				m[name], _ = scribe.Print(d.Orders[i])
			}
			got, answer, err := Run(d, line)
			if wantAnswer, want := m.run(line); err != want || answer != wantAnswer || err == api.OK && !isSame(got, m.desk()) {
				t.Errorf("Run(%v, %q) = %v, %q, error %d", d, line, got, answer, err)
			}
		}
	})
}
