package scribe

import (
	"regexp"
	"slices"
	"strconv"
	"strings"
	"testing"

	"hasse/api"
	"hasse/order"
	"hasse/samples"
)

func below(sets ...int) api.Order { return api.Order{N: len(sets), Below: sets} }

func same(a, b api.Order) bool { return a.N == b.N && slices.Equal(a.Below, b.Below) }

func TestB1Print(t *testing.T) {
	for _, c := range []struct {
		o    api.Order
		want string
	}{
		{api.Order{}, "0:"},
		{below(0), "1:"},
		{below(0, 0), "2:"},
		{below(0, 1), "2: 0<1"},
		{below(2, 0), "2: 1<0"},
		{below(0, 1, 3), "3: 0<1 1<2"},
		{below(8, 8, 11, 0), "4: 0<2 1<2 3<0 3<1"},
		{below(make([]int, 10)...), "10:"},
		{below(512, 0, 0, 0, 0, 0, 0, 0, 0, 0), "10: 9<0"},
	} {
		if got, err := Print(c.o); err != api.OK || got != c.want {
			t.Errorf("Print(%v) = %q, error %d, want %q", c.o, got, err, c.want)
		}
	}
}

func TestB1PrintWrong(t *testing.T) {
	for _, c := range []struct {
		o    api.Order
		want api.Errno
	}{
		{api.Order{N: -1}, api.ErrMany},
		{api.Order{N: 11}, api.ErrMany},
		{api.Order{N: 1}, api.ErrForm},
		{below(0, 4), api.ErrRange},
		{below(-1), api.ErrRange},
		{below(1), api.ErrState},
		{below(0, 1, 2), api.ErrState},
	} {
		if got, err := Print(c.o); err != c.want || got != "" {
			t.Errorf("Print(%v) = %q, error %d, want error %d", c.o, got, err, c.want)
		}
	}
}

func TestB2Read(t *testing.T) {
	for _, c := range []struct {
		text string
		want []int
	}{
		{"0:", nil},
		{"1:", []int{0}},
		{"3:", []int{0, 0, 0}},
		{"10:", make([]int, 10)},
		{"3: 0<1 1<2", []int{0, 1, 3}},
		{"3: 1<2 0<1", []int{0, 1, 3}},
		{"3: 0<1 0<2 1<2 0<1", []int{0, 1, 3}},
		{"2: 0<1 0<1", []int{0, 1}},
		{"10: 9<0", []int{512, 0, 0, 0, 0, 0, 0, 0, 0, 0}},
	} {
		if got, f := Read(c.text); f != (api.Fault{}) || got.N != len(c.want) || !slices.Equal(got.Below, c.want) {
			t.Errorf("Read(%q) = %v, %v, want %v", c.text, got, f, c.want)
		}
	}
}

func TestB2Faults(t *testing.T) {
	for _, c := range []struct {
		text string
		err  api.Errno
		at   int
	}{
		// It ends too early.
		{"", api.ErrForm, 0},
		{"3", api.ErrForm, 1},
		{"10", api.ErrForm, 2},
		{"3: ", api.ErrForm, 3},
		{"3: 0", api.ErrForm, 4},
		{"3: 0<", api.ErrForm, 5},
		{"3: 0<1 ", api.ErrForm, 7},
		// It cannot go on so.
		{"x", api.ErrForm, 0},
		{":", api.ErrForm, 0},
		{" 3:", api.ErrForm, 0},
		{"-1:", api.ErrForm, 0},
		{"+3:", api.ErrForm, 0},
		{"\xff", api.ErrForm, 0},
		{"٣:", api.ErrForm, 0},
		{"3 :", api.ErrForm, 1},
		{"3:0<1", api.ErrForm, 2},
		{"3:\t0<1", api.ErrForm, 2},
		{"3:\n", api.ErrForm, 2},
		{"3:  0<1", api.ErrForm, 3},
		{"3: -1<0", api.ErrForm, 3},
		{"3: 0>1", api.ErrForm, 4},
		{"3: 0 <1", api.ErrForm, 4},
		{"3: 0< 1", api.ErrForm, 5},
		{"3: 0<1x", api.ErrForm, 6},
		{"3: 0<1<2", api.ErrForm, 6},
		{"3: 0<1\x00", api.ErrForm, 6},
		// A nought ahead of other digits.
		{"03:", api.ErrForm, 1},
		{"00:", api.ErrForm, 1},
		{"099:", api.ErrForm, 1},
		{"3: 00<1", api.ErrForm, 4},
		{"3: 09<1", api.ErrForm, 4},
		{"3: 0<01", api.ErrForm, 6},
		// Too many points.
		{"11:", api.ErrMany, 0},
		{"11", api.ErrMany, 0},
		{"11x", api.ErrMany, 0},
		{"100:", api.ErrMany, 0},
		{"18446744073709551616:", api.ErrMany, 0},
		{"18446744073709551619: 0<1", api.ErrMany, 0},
		{strings.Repeat("9", 2000), api.ErrMany, 0},
		// No point.
		{"0: 0<0", api.ErrRange, 3},
		{"3: 3<0", api.ErrRange, 3},
		{"3: 3", api.ErrRange, 3},
		{"3: 3x", api.ErrRange, 3},
		{"3: 0<3", api.ErrRange, 5},
		{"3: 0<3x", api.ErrRange, 5},
		{"3: 0<10", api.ErrRange, 5},
		{"10: 0<10", api.ErrRange, 6},
		{"3: 18446744073709551616<1", api.ErrRange, 3},
		// What is met first from the left.
		{"3: 0<3 x", api.ErrRange, 5},
		{"3: 0x1 0<3", api.ErrForm, 4},
		{"3: 0<0 0<3", api.ErrRange, 9},
		{"3: 0<0 ", api.ErrForm, 7},
		// A nought that is no point itself begins further left than the digit behind it.
		{"0: 05<1", api.ErrRange, 3},
		// Below itself.
		{"1: 0<0", api.ErrState, 0},
		{"2: 0<1 1<0", api.ErrState, 0},
		{"3: 0<1 1<2 2<0", api.ErrState, 0},
	} {
		got, f := Read(c.text)
		if f != (api.Fault{Err: c.err, At: c.at}) || got.N != 0 || got.Below != nil {
			t.Errorf("Read(%q) = %v, %v, want fault %d at %d", c.text, got, f, c.err, c.at)
		}
	}
}

func TestB2LongTexts(t *testing.T) {
	longest := "2:" + strings.Repeat(" 0<1", 499) + " 0"
	if len(longest) != api.MaxText {
		t.Fatalf("%d bytes", len(longest))
	}
	for _, c := range []struct {
		text string
		want api.Fault
	}{
		{"2:" + strings.Repeat(" 0<1", 499), api.Fault{}},
		{"11" + strings.Repeat(" ", 1999), api.Fault{Err: api.ErrMany}},
		{longest, api.Fault{Err: api.ErrForm, At: api.MaxText}},
		{longest + "<", api.Fault{Err: api.ErrMany}},
		{longest + "<1", api.Fault{Err: api.ErrMany}},
		{strings.Repeat("x", 2000), api.Fault{Err: api.ErrForm}},
		{strings.Repeat("x", 2001), api.Fault{Err: api.ErrMany}},
		{strings.Repeat(" ", 1<<20), api.Fault{Err: api.ErrMany}},
	} {
		if o, f := Read(c.text); f != c.want || (f.Err == api.OK) != (o.N == 2) {
			t.Errorf("%d bytes: %v, %v, want %v", len(c.text), o, f, c.want)
		}
	}
}

// The form, and what can still become it.
var (
	whole = regexp.MustCompile(`^(0|[1-9][0-9]*):( (0|[1-9][0-9]*)<(0|[1-9][0-9]*))*$`)
	begun = regexp.MustCompile(`^((0|[1-9][0-9]*)(:( (0|[1-9][0-9]*)<(0|[1-9][0-9]*))*( ((0|[1-9][0-9]*)(<(0|[1-9][0-9]*)?)?)?)?)?)?$`)
	digit = regexp.MustCompile(`0|[1-9][0-9]*`)
)

// wanted tells a short text's fault by looking for all of them, and taking the one that is furthest left.
func wanted(text string) api.Fault {
	good := len(text)
	for good > 0 && !begun.MatchString(text[:good]) {
		good--
	}
	numbers := digit.FindAllStringIndex(text[:good], -1)
	if len(numbers) > 0 {
		n, _ := strconv.Atoi(text[:numbers[0][1]])
		if n > api.MaxPoints {
			return api.Fault{Err: api.ErrMany}
		}
		for _, at := range numbers[1:] {
			if p, _ := strconv.Atoi(text[at[0]:at[1]]); p >= n {
				return api.Fault{Err: api.ErrRange, At: at[0]}
			}
		}
	}
	if !whole.MatchString(text) {
		return api.Fault{Err: api.ErrForm, At: good}
	}
	var pairs [][2]int
	for i := 1; i < len(numbers); i += 2 {
		a, _ := strconv.Atoi(text[numbers[i][0]:numbers[i][1]])
		b, _ := strconv.Atoi(text[numbers[i+1][0]:numbers[i+1][1]])
		pairs = append(pairs, [2]int{a, b})
	}
	n, _ := strconv.Atoi(text[:numbers[0][1]])
	_, err := order.Make(n, pairs)
	return api.Fault{Err: err}
}

func TestB2AllShortTexts(t *testing.T) {
	const letters = "012:< "
	for _, start := range []string{"", "1", "2: ", "2: 0<1 ", "0: "} {
		for length := range 6 {
			total := 1
			for range length {
				total *= len(letters)
			}
			for code := range total {
				text := []byte(start)
				for c := code; len(text) < len(start)+length; c /= len(letters) {
					text = append(text, letters[c%len(letters)])
				}
				if _, f := Read(string(text)); f != wanted(string(text)) {
					t.Fatalf("Read(%q): %v, want %v", text, f, wanted(string(text)))
				}
			}
		}
	}
}

func TestB3WhatIsPrintedIsRead(t *testing.T) {
	for _, o := range samples.SmallOrders() {
		text, err := Print(o)
		if err != api.OK {
			t.Fatalf("Print(%v): error %d", o, err)
		}
		if got, f := Read(text); f != (api.Fault{}) || !same(got, o) {
			t.Fatalf("%v is printed as %q, and read as %v, %v", o, text, got, f)
		}
	}
}

func TestB3ThePrintedOneHasTheFewestPairs(t *testing.T) {
	fewest := map[string]int{}
	for choice := range 1 << 12 {
		text, pairs := "4:", 0
		for i := range 12 {
			if choice>>i&1 == 1 {
				a := i / 3
				text += " " + strconv.Itoa(a) + "<" + strconv.Itoa((a+1+i%3)%4)
				pairs++
			}
		}
		o, f := Read(text)
		if f.Err == api.ErrState {
			continue
		}
		printed, err := Print(o)
		if f != (api.Fault{}) || err != api.OK {
			t.Fatalf("Read(%q): %v, then Print: error %d", text, f, err)
		}
		if few, ok := fewest[printed]; !ok || pairs < few {
			fewest[printed] = pairs
		}
	}
	if len(fewest) != 219 {
		t.Errorf("%d orders of four points are read", len(fewest))
	}
	for printed, few := range fewest {
		if got := strings.Count(printed, "<"); got != few {
			t.Errorf("%q has %d pairs, and %d are enough", printed, got, few)
		}
	}
}

func TestP2PrintOnlyReads(t *testing.T) {
	room := []int{0, 1, 3, 77, 78}
	Print(api.Order{N: 3, Below: room[:3]})
	if !slices.Equal(room, []int{0, 1, 3, 77, 78}) {
		t.Errorf("what was handed in was changed: %v", room)
	}
}

func TestP3TheSameEachTime(t *testing.T) {
	first, _ := Read("3: 0<1 1<2")
	first.Below[2] = 0
	Read("3: 0<")
	second, f := Read("3: 0<1 1<2")
	if f != (api.Fault{}) || !slices.Equal(second.Below, []int{0, 1, 3}) {
		t.Errorf("the second time: %v, %v", second, f)
	}
}

func FuzzRead(f *testing.F) {
	for _, text := range []string{"", "3: 0<1 1<2", "11:", "2: 0<1 1<0", "3: 00<1"} {
		f.Add(text)
	}
	f.Fuzz(func(t *testing.T, text string) {
		o, fault := Read(text)
		if fault.Err != api.OK {
			if o.N != 0 || o.Below != nil || fault.At < 0 || fault.At > len(text) {
				t.Errorf("Read(%q) = %v, %v", text, o, fault)
			}
			return
		}
		printed, err := Print(o)
		again, _ := Read(printed)
		if err != api.OK || fault.At != 0 || !same(o, again) {
			t.Errorf("Read(%q) = %v, printed %q, read %v", text, o, printed, again)
		}
	})
}
