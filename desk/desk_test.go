package desk

import (
	"slices"
	"strconv"
	"strings"
	"sync"
	"testing"

	"hasse/api"
	"hasse/samples"
)

// below tells an order by its sets.
func below(sets ...int) api.Order { return samples.Below(sets...) }

// crown: three points, and above each two of them one.
func crown() api.Order { return below(0, 0, 0, 6, 5, 3) }

// deskOf names, each with one of the orders.
func deskOf(names string, orders ...api.Order) api.Desk {
	return api.Desk{Names: strings.Fields(names), Orders: orders}
}

// full: a desk with as many names as there may be, of some small orders.
func full() api.Desk {
	return deskOf("a b c d e f g h", below(), below(0), below(0, 0), below(0, 1), below(0, 0, 3, 2), crown(), samples.Apart(), samples.Rising())
}

// isSameOrder: are two orders the same, point by point?
func isSameOrder(a, b api.Order) bool { return a.N == b.N && slices.Equal(a.Below, b.Below) }

// isSame: are two desks the same?
func isSame(a, b api.Desk) bool {
	return slices.Equal(a.Names, b.Names) && slices.EqualFunc(a.Orders, b.Orders, isSameOrder)
}

// copied: the same desk in new memory.
func copied(d api.Desk) api.Desk {
	other := api.Desk{Names: slices.Clone(d.Names)}
	for _, o := range d.Orders {
		other.Orders = append(other.Orders, below(slices.Clone(o.Below)...))
	}
	return other
}

// run lines in which nothing is wrong: the desk that comes out, and the last answer.
func run(t *testing.T, d api.Desk, lines ...string) (api.Desk, string) {
	t.Helper()
	answer := ""
	for _, line := range lines {
		next, told, err := Run(d, line)
		if err != api.OK {
			t.Fatalf("Run(%v, %q): error %d", d, line, err)
		}
		if got := Check(next); got != api.OK {
			t.Fatalf("Run(%v, %q) = %v, of which Check says %d", d, line, next, got)
		}
		d, answer = next, told
	}
	return d, answer
}

// isRefused: the line is answered by the error, and by nothing else.
func isRefused(t *testing.T, d api.Desk, line string, want api.Errno) {
	t.Helper()
	if got, answer, err := Run(d, line); err != want || answer != "" || got.Names != nil || got.Orders != nil {
		t.Errorf("Run(%v, %q) = %v, %q, error %d, want error %d", d, line, got, answer, err, want)
	}
}

// isWrong: Check tells the error of a desk, and Run tells it of any line.
func isWrong(t *testing.T, d api.Desk, want api.Errno) {
	t.Helper()
	if got := Check(d); got != want {
		t.Errorf("Check(%v) = %d, want %d", d, got, want)
	}
	for _, line := range []string{"names", "put a 1:", "put z 11:", "drop a", "drop nobody", "show a", "", "rows  a", "hello"} {
		isRefused(t, d, line, want)
	}
}

// noNames are words that are none.
func noNames() []string {
	return []string{"", "A", "Z", "`", "{", "a1", "1a", "0", "a-b", "a_b", "aB", "aaaaaaaaa", "abcdefghi", "ä", "aä", "ß", "é", "ａ", "а", "\xff", "a\xff", "\xc3", "a\x00", "\x00", "a\n", "a\t", "a.", ",", "<", strings.Repeat("a", 100), strings.Repeat("ä", 4)}
}

func TestDD1Right(t *testing.T) {
	for _, d := range []api.Desk{
		{},
		{Names: []string{}, Orders: []api.Order{}},
		deskOf("a", below()),
		deskOf("a", api.Order{Below: []int{}}),
		deskOf("z", samples.Apart()),
		deskOf("a aa aaaaaaaa ab b", below(), below(), below(), below(), below()),
		deskOf("az b", below(0), below(0)),
		deskOf("abcdefgh ijklmnop qrstuvwx yz", below(), below(0), crown(), samples.Storeys()),
		full(),
	} {
		if got := Check(d); got != api.OK {
			t.Errorf("Check(%v) = %d", d, got)
		}
		if next, answer := run(t, d, "names"); answer != strings.Join(d.Names, " ") || !isSame(next, d) {
			t.Errorf("names of %v: %q, and then %v", d, answer, next)
		}
	}
}

func TestDD1Wrong(t *testing.T) {
	one, wrong := below(0), below(1)
	for _, c := range []struct {
		d    api.Desk
		want api.Errno
	}{
		{deskOf("a b c d e f g h i", make([]api.Order, 9)...), api.ErrMany},
		{api.Desk{Names: make([]string, 9)}, api.ErrMany},
		{api.Desk{Names: make([]string, 1<<20)}, api.ErrMany},
		{deskOf("i h g f e d c b A", wrong), api.ErrMany},
		{deskOf("a"), api.ErrForm},
		{deskOf("", one), api.ErrForm},
		{deskOf("a", one, one), api.ErrForm},
		{deskOf("a b", one), api.ErrForm},
		{deskOf("a", make([]api.Order, 9)...), api.ErrForm},
		{deskOf("b a", one), api.ErrForm},
		{deskOf("a", wrong, wrong), api.ErrForm},
		{deskOf("b a A", one, one, wrong), api.ErrForm},
		{deskOf("b a", one, one), api.ErrTwice},
		{deskOf("a a", one, one), api.ErrTwice},
		{deskOf("a c b", one, one, one), api.ErrTwice},
		{deskOf("a b b", one, one, one), api.ErrTwice},
		{deskOf("aa a", one, one), api.ErrTwice},
		{deskOf("b az", one, one), api.ErrTwice},
		{deskOf("b a", wrong, wrong), api.ErrTwice},
		{deskOf("a b c d e f h g", make([]api.Order, 8)...), api.ErrTwice},
	} {
		isWrong(t, c.d, c.want)
	}
}

func TestDD1Names(t *testing.T) {
	for _, word := range noNames() {
		isWrong(t, api.Desk{Names: []string{word}, Orders: make([]api.Order, 1)}, api.ErrForm)
		isWrong(t, api.Desk{Names: []string{"a", "b", word}, Orders: make([]api.Order, 3)}, api.ErrForm)
		isWrong(t, api.Desk{Names: []string{word, "a", "b"}, Orders: make([]api.Order, 3)}, api.ErrForm)
	}
	isWrong(t, api.Desk{Names: []string{"a b"}, Orders: make([]api.Order, 1)}, api.ErrForm)
	for letter := range 256 {
		for _, word := range []string{string([]byte{byte(letter)}), string(rune(letter)), "b" + string([]byte{byte(letter)}), string(rune(letter)) + "b"} {
			want := api.ErrForm
			if letter >= 97 && letter <= 122 {
				want = api.OK
			}
			if got := Check(api.Desk{Names: []string{word}, Orders: make([]api.Order, 1)}); got != want {
				t.Errorf("the name %q: %d, want %d", word, got, want)
			}
		}
	}
}

func TestDD1OrderByOrder(t *testing.T) {
	for _, w := range samples.WrongOrders() {
		isWrong(t, deskOf("a", w.Order), w.Err)
		isWrong(t, deskOf("a b c", crown(), below(), w.Order), w.Err)
		for _, other := range samples.WrongOrders() {
			isWrong(t, deskOf("a b c", below(0), w.Order, other.Order), w.Err)
		}
	}
}

// wrongLines, whatever lies on the desk.
func wrongLines() []string {
	lines := []string{
		"", " ", "  ", "\n", "hello", "hello a", "Names", "NAMES", "name", "namess", "names\n", "\tnames", "put\x00 a 1:", "\xff",
		"a", "1:", "names ", " names", "names  ", "names names", "names a", "names a b c d e",
		"put", "put ", "put a", "put a ", "put a  1:", "put  a 1:", " put a 1:", "put a 1: ", "put a 1: 0<1", "put a 2: 0<1", "put a b 1:", "put 1: a", "put a b c d e f g",
		"drop", "drop ", "drop  a", " drop a", "drop a ", "drop a b", "drop a a",
		"dual", "dual a", "dual a ", "dual  a", "dual a  b", "dual a b c", "dual a b ",
		"show", "show ", "show  a", "show a b", "rows", "rows a a", "rows  a", " rows a", "wide", "wide a b", "long", "long a b",
		"alike", "alike a", "alike a b c", "alike  a b", "alike a  b", "alike a b ",
		"put\ta\t1:", "show\na", "show\u00a0a", "show,a", "drop,a", "alike a,b",
		strings.Repeat(" ", 1000), strings.Repeat("names ", 1000), strings.Repeat("a", 100000), "show " + strings.Repeat("a ", 100000),
	}
	for _, word := range []string{"beside", "over", "times"} {
		for _, rest := range []string{"", " ", " a", " a b", " a b ", " a  b", " a b c d", " a b c ", "  a b c", " a b  c"} {
			lines = append(lines, word+rest)
		}
	}
	return lines
}

func TestDD2Form(t *testing.T) {
	for _, d := range []api.Desk{{}, full(), deskOf("a b c", below(0), below(0, 1), crown())} {
		for _, line := range wrongLines() {
			isRefused(t, d, line, api.ErrForm)
		}
		for _, word := range noNames() {
			for _, line := range []string{"put @ 1:", "put @ x", "drop @", "dual @ a", "dual a @", "dual @ nobody", "beside @ a b", "beside a @ b", "beside a b @", "over @ a b", "over a @ b", "over a b @", "times @ a b", "times a @ b", "times a b @", "show @", "rows @", "wide @", "long @", "alike @ a", "alike a @", "alike nobody @"} {
				isRefused(t, d, strings.Replace(line, "@", word, 1), api.ErrForm)
			}
		}
	}
}

func TestDD2Put(t *testing.T) {
	for _, c := range []struct {
		text string
		want api.Order
	}{
		{"0:", below()},
		{"1:", below(0)},
		{"10:", samples.Apart()},
		{"2:,0<1", below(0, 1)},
		{"2:,0<1,0<1", below(0, 1)},
		{"3:,1<2,0<1", below(0, 1, 3)},
		{"3:,0<1,0<2,1<2", below(0, 1, 3)},
		{"4:,0<2,1<2,1<3", below(0, 0, 3, 2)},
		{"10:,9<0", below(512, 0, 0, 0, 0, 0, 0, 0, 0, 0)},
		{"2:" + strings.Repeat(",0<1", 499), below(0, 1)},
	} {
		for _, name := range []string{"a", "b", "zz", "abcdefgh"} {
			d := deskOf("b d", crown(), below(0))
			got, answer := run(t, d, "put "+name+" "+c.text)
			place := slices.Index(got.Names, name)
			if answer != "" || place < 0 || !isSameOrder(got.Orders[place], c.want) {
				t.Errorf("put %s %s: %v, %q", name, c.text, got, answer)
			}
			want := []string{"b", "d", name}
			slices.Sort(want)
			if !slices.Equal(got.Names, slices.Compact(want)) {
				t.Errorf("put %s: the names are %q", name, got.Names)
			}
		}
	}
}

func TestDD2Drop(t *testing.T) {
	d := full()
	for i, name := range d.Names {
		got, answer := run(t, d, "drop "+name)
		want := api.Desk{Names: slices.Delete(slices.Clone(d.Names), i, i+1), Orders: slices.Delete(slices.Clone(d.Orders), i, i+1)}
		if answer != "" || !isSame(got, want) {
			t.Errorf("drop %s: %v, %q", name, got, answer)
		}
	}
	got, _ := run(t, d, "drop h", "drop b", "drop d", "drop a", "drop c", "drop f", "drop g", "drop e")
	if len(got.Names) != 0 || len(got.Orders) != 0 {
		t.Errorf("all is dropped, and there is %v", got)
	}
}

func TestDD2Answers(t *testing.T) {
	d := full()
	for _, c := range []struct{ line, want string }{
		{"names", "a b c d e f g h"},
		{"show a", "0:"},
		{"show b", "1:"},
		{"show c", "2:"},
		{"show d", "2:,0<1"},
		{"show e", "4:,0<2,1<2,1<3"},
		{"show f", "6:,0<4,0<5,1<3,1<5,2<3,2<4"},
		{"show g", "10:"},
		{"show h", "10:,0<1,1<2,2<3,3<4,4<5,5<6,6<7,7<8,8<9"},
		{"rows a", "1"},
		{"rows b", "1"},
		{"rows c", "2"},
		{"rows d", "1"},
		{"rows e", "5"},
		{"rows f", "48"},
		{"rows g", "3628800"},
		{"rows h", "1"},
		{"wide a", "0"},
		{"wide b", "1"},
		{"wide c", "2"},
		{"wide d", "1"},
		{"wide e", "2"},
		{"wide f", "3"},
		{"wide g", "10"},
		{"wide h", "1"},
		{"long a", "0"},
		{"long b", "1"},
		{"long c", "1"},
		{"long d", "2"},
		{"long e", "2"},
		{"long f", "2"},
		{"long g", "1"},
		{"long h", "10"},
		{"alike a a", "yes"},
		{"alike a b", "no"},
		{"alike c d", "no"},
		{"alike f f", "yes"},
		{"alike e f", "no"},
	} {
		if got, answer := run(t, d, c.line); answer != c.want || !isSame(got, d) {
			t.Errorf("%s: %q, want %q; and then %v", c.line, answer, c.want, got)
		}
	}
	if got, answer := run(t, api.Desk{}, "names"); answer != "" || len(got.Names) != 0 {
		t.Errorf("names of nothing: %v, %q", got, answer)
	}
}

func TestDD2Makers(t *testing.T) {
	d := deskOf("a b c", below(0, 1), below(0, 0), below(0, 0, 3))
	for _, c := range []struct {
		line string
		want api.Order
	}{
		{"dual x a", below(2, 0)},
		{"dual x b", below(0, 0)},
		{"dual a a", below(2, 0)},
		{"dual b c", below(4, 4, 0)},
		{"beside x a b", below(0, 1, 0, 0)},
		{"beside x b a", below(0, 0, 0, 4)},
		{"beside a a a", below(0, 1, 0, 4)},
		{"over x a b", below(0, 1, 3, 3)},
		{"over x b a", below(0, 0, 3, 7)},
		{"over c a c", below(0, 1, 3, 3, 15)},
		{"over a c a", below(0, 0, 3, 7, 15)},
		{"times x a b", below(0, 0, 1, 2)},
		{"times x b a", below(0, 1, 0, 4)},
		{"times b a c", below(0, 0, 3, 1, 2, 31)},
		{"times c c c", below(0, 0, 3, 0, 0, 24, 9, 18, 255)},
	} {
		name := strings.Fields(c.line)[1]
		got, answer := run(t, d, c.line)
		place := slices.Index(got.Names, name)
		if answer != "" || place < 0 || !isSameOrder(got.Orders[place], c.want) {
			t.Errorf("%s: %v, %q, want %v", c.line, got, answer, c.want)
		}
	}
}

func TestExample30(t *testing.T) {
	if _, answer := run(t, api.Desk{}, "put a 3:,0<1", "rows a"); answer != "3" {
		t.Errorf("rows a: %q", answer)
	}
}

func TestDD3None(t *testing.T) {
	for _, d := range []api.Desk{deskOf("a g h", below(0), samples.Apart(), samples.Rising()), full()} {
		for _, line := range []string{
			"drop x", "drop aa", "dual x x", "dual a x", "dual x y", "show x", "rows x", "wide x", "long x", "alike x a", "alike a x", "alike x x",
			"beside a x a", "beside a a x", "beside x x x", "over a x a", "over a a x", "times a x a", "times a a x", "times x y z",
			// What is none of the desk is told ahead of what the call says, and of too many names.
			"beside a g x", "beside x h y", "over n x g", "times n g x", "alike x g", "alike g x", "alike h nobody",
		} {
			isRefused(t, d, line, api.ErrNone)
		}
	}
	isRefused(t, api.Desk{}, "drop a", api.ErrNone)
	isRefused(t, api.Desk{}, "dual a a", api.ErrNone)
	isRefused(t, api.Desk{}, "over a a a", api.ErrNone)
}

func TestDD3WhatTheCallSays(t *testing.T) {
	texts := map[string]api.Errno{
		"x": api.ErrForm, "0<1": api.ErrForm, ",": api.ErrForm, "3": api.ErrForm, "03:": api.ErrForm, "3:,": api.ErrForm, "3:,,0<1": api.ErrForm, "3:0<1": api.ErrForm, "3:\t0<1": api.ErrForm, ",3:": api.ErrForm, "3,:": api.ErrForm, "\xff": api.ErrForm, "-1:": api.ErrForm, "3:,0<1,": api.ErrForm, "3:;0<1": api.ErrForm,
		"11:": api.ErrMany, "100:": api.ErrMany, "11": api.ErrMany, strings.Repeat(",", 2001): api.ErrMany, "2:" + strings.Repeat(",0<1", 500): api.ErrMany, strings.Repeat("x", 2001): api.ErrMany,
		"3:,0<3": api.ErrRange, "3:,3<x": api.ErrRange, "0:,0<0": api.ErrRange,
		"1:,0<0": api.ErrState, "2:,0<1,1<0": api.ErrState, "3:,0<1,1<2,2<0": api.ErrState,
	}
	for _, d := range []api.Desk{{}, full()} {
		for text, want := range texts {
			isRefused(t, d, "put a "+text, want)
			isRefused(t, d, "put new "+text, want)
		}
	}
	d := deskOf("a b c d e", below(0), below(0, 1, 3, 7), crown(), below(0, 0, 0, 0, 0, 0, 0), samples.Apart())
	for _, line := range []string{"beside x c d", "over a d d", "times x b b", "times x c b", "beside x e a", "over x a e", "alike d d", "alike a d", "alike d a", "alike e a", "alike e e"} {
		isRefused(t, d, line, api.ErrMany)
	}
	run(t, d, "beside x c b", "over x b c", "times x e a", "times x a e", "alike c c")
}

func TestDD3MaxNames(t *testing.T) {
	d := full()
	for _, line := range []string{"put x 1:", "put i 0:", "put aa 1:", "dual x a", "beside x a a", "over x b c", "times x a b"} {
		isRefused(t, d, line, api.ErrMany)
		// One name less, and there is room for it; a name that is there needs none.
		fewer, _ := run(t, d, "drop h", line)
		if len(fewer.Names) != 8 {
			t.Errorf("%s: %q", line, fewer.Names)
		}
		words := strings.Fields(line)
		words[1] = "d"
		if same, _ := run(t, d, strings.Join(words, " ")); !slices.Equal(same.Names, d.Names) {
			t.Errorf("%s: %q", words, same.Names)
		}
	}
}

func TestDD4WhatIsPutIsShownAsItIs(t *testing.T) {
	for i, o := range append(samples.SmallOrders(), samples.GreatOrders(300)...) {
		text := "put o " + printed(o)
		got, answer := run(t, deskOf("a z", crown(), below(0)), text, "show o")
		if answer != printed(o) || !isSameOrder(got.Orders[1], o) {
			t.Fatalf("%d: %v is put as %q and shown as %q", i, o, text, answer)
		}
	}
}

// printed by the words of B1, with a comma for each blank.
func printed(o api.Order) string {
	text := []string{strconv.Itoa(o.N) + ":"}
	for lower := range o.N {
		for upper := range o.N {
			covers := samples.IsBelow(o, lower, upper)
			for between := range o.N {
				covers = covers && !(samples.IsBelow(o, lower, between) && samples.IsBelow(o, between, upper))
			}
			if covers {
				text = append(text, strconv.Itoa(lower)+"<"+strconv.Itoa(upper))
			}
		}
	}
	return strings.Join(text, ",")
}

func TestDD4PutAndDroppedWasNeverThere(t *testing.T) {
	for _, d := range []api.Desk{{}, deskOf("b", crown()), deskOf("a c e", below(), below(0), samples.Apart()), deskOf("a b c d e f g", make([]api.Order, 7)...)} {
		for _, name := range []string{"aa", "x", "cc", "zzzzzzzz"} {
			for _, line := range []string{"put @ 0:", "put @ 3:,0<1", "put @ 10:"} {
				put := strings.Replace(line, "@", name, 1)
				if got, answer := run(t, d, put, "drop "+name); answer != "" || !isSame(got, d) {
					t.Errorf("%v: %q, and dropped: %v", d, put, got)
				}
			}
		}
	}
}

func TestP2OnlyReadAndNew(t *testing.T) {
	for _, line := range []string{"names", "show a", "rows b", "wide c", "long d", "alike a b", "drop c", "drop e", "put c 2:,0<1", "put x 3:,0<1", "dual c c", "dual x d", "dual a b", "beside x b b", "beside b b b", "over b c c", "over x a a", "times b b b", "times x b c"} {
		d, rooms := roomy()
		want := copied(d)
		before := make([][]int, len(rooms))
		for i, room := range rooms {
			before[i] = slices.Clone(room)
		}
		got, _ := run(t, d, line)
		first := copied(got)
		if !isSame(d, want) || !slices.EqualFunc(rooms, before, slices.Equal) || !hasRoom(d) {
			t.Errorf("%s: the desk that was handed in was changed", line)
		}
		lists := slices.Clone(rooms)
		for _, o := range got.Orders {
			lists = append(lists, o.Below)
		}
		if samples.Shared(lists...) {
			t.Errorf("%s: memory is shared", line)
		}
		// What is handed in is not seen any more, whatever becomes of it.
		for _, room := range rooms {
			samples.Spoil(room)
		}
		clear(d.Names[:cap(d.Names)])
		clear(d.Orders[:cap(d.Orders)])
		if !isSame(got, first) {
			t.Errorf("%s: what comes out is changed with what was handed in", line)
		}
	}
}

// roomy: a desk whose lists have spare room behind them, with marks that must stay.
func roomy() (api.Desk, [][]int) {
	var d api.Desk
	var rooms [][]int
	for i, o := range []api.Order{below(), below(0), below(0, 1), below(0, 0, 3, 2), crown()} {
		list, room := samples.Roomy(o.Below...)
		d.Names = append(d.Names, string(rune('a'+i)))
		d.Orders = append(d.Orders, below(list...))
		rooms = append(rooms, room)
	}
	d.Names = append(d.Names, "room")[:5]
	d.Orders = append(d.Orders, api.Order{N: 77})[:5]
	return d, rooms
}

// hasRoom tells whether the room behind a roomy desk is as it was laid.
func hasRoom(d api.Desk) bool { return d.Names[:6][5] == "room" && d.Orders[:6][5].N == 77 }

func TestP3TheSameEachTime(t *testing.T) {
	for _, line := range []string{"names", "put x 3:,0<1", "drop a", "dual x d", "over x b c", "show d", "alike c c"} {
		d, _ := run(t, full(), "drop h")
		want, answer := run(t, d, line)
		want = copied(want)
		for range 3 {
			got, again := run(t, d, line)
			if !isSame(got, want) || again != answer {
				t.Errorf("%s: %v, %q, want %v, %q", line, got, again, want, answer)
			}
			clear(got.Names)
			for _, o := range got.Orders {
				samples.Spoil(o.Below)
			}
			isRefused(t, d, "put x 3:,0<", api.ErrForm)
			isRefused(t, d, "drop nobody", api.ErrNone)
		}
	}
}

func TestP3AskedByManyAtOnce(t *testing.T) {
	d := full()
	wrong := make([]int, 30)
	var group sync.WaitGroup
	for i := range wrong {
		group.Go(func() {
			got, _, err := Run(d, "over d e f")
			_, answer, other := Run(got, "show d")
			if err != api.OK || other != api.OK || !strings.HasPrefix(answer, "10:,0<2,") {
				wrong[i] = 1
			}
		})
	}
	group.Wait()
	if slices.Contains(wrong, 1) {
		t.Errorf("who was told something else: %v", wrong)
	}
}
