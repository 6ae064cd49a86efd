package level

import (
	"slices"
	"testing"

	"hasse/api"
	"hasse/samples"
)

// below tells an order by its sets.
func below(sets ...int) api.Order { return samples.Below(sets...) }

// allChains of an order, one list each, by going up from each point to each above it.
func allChains(o api.Order) [][]int {
	chains := [][]int{{}}
	for i := 0; i < len(chains); i++ {
		chain := chains[i]
		for p := range o.N {
			if len(chain) == 0 || samples.IsBelow(o, chain[len(chain)-1], p) {
				chains = append(chains, append(slices.Clone(chain), p))
			}
		}
	}
	return chains
}

// tried orders: all small ones and some great ones.
func tried() []api.Order {
	return append(samples.SmallOrders(), append(samples.GreatOrders(300), samples.Apart(), samples.Rising(), samples.Falling(), samples.Storeys())...)
}

func TestC1Heights(t *testing.T) {
	for _, c := range []struct {
		o    api.Order
		want []int
	}{
		{api.Order{}, nil},
		{below(0), []int{0}},
		{below(0, 0), []int{0, 0}},
		{below(0, 1, 3), []int{0, 1, 2}},
		{below(6, 4, 0), []int{2, 1, 0}},
		{below(8, 8, 11, 0), []int{1, 1, 2, 0}},
		{below(0, 1, 3, 0, 15), []int{0, 1, 2, 0, 3}},
		{samples.Falling(), []int{9, 8, 7, 6, 5, 4, 3, 2, 1, 0}},
		{samples.Storeys(), []int{0, 0, 1, 1, 2, 2, 3, 3, 4, 4}},
	} {
		if got, err := Heights(c.o); err != api.OK || !slices.Equal(got, c.want) {
			t.Errorf("Heights(%v) = %v, error %d, want %v", c.o, got, err, c.want)
		}
	}
}

func TestC1HeightsByAllChains(t *testing.T) {
	for _, o := range tried() {
		want := make([]int, o.N)
		for _, chain := range allChains(o) {
			if n := len(chain); n > 0 {
				want[chain[n-1]] = max(want[chain[n-1]], n-1)
			}
		}
		if got, err := Heights(o); err != api.OK || !slices.Equal(got, want) {
			t.Fatalf("Heights(%v) = %v, error %d, want %v", o, got, err, want)
		}
	}
}

func TestC1Longest(t *testing.T) {
	for _, c := range []struct {
		o    api.Order
		want []int
	}{
		{api.Order{}, nil},
		{below(0, 0, 0), []int{0}},
		{below(6, 4, 0), []int{2, 1, 0}},
		{below(8, 8, 11, 0), []int{3, 0, 2}},
		{below(0, 0, 3, 3), []int{0, 2}},
		// 0 is least of all, but no longest chain begins there.
		{below(0, 8, 10, 0), []int{3, 1, 2}},
		// From 0 the least one above is 1, but that leads nowhere.
		{below(0, 1, 1, 5), []int{0, 2, 3}},
		{samples.Falling(), []int{9, 8, 7, 6, 5, 4, 3, 2, 1, 0}},
		{samples.Storeys(), []int{0, 2, 4, 6, 8}},
	} {
		if got, err := Longest(c.o); err != api.OK || !slices.Equal(got, c.want) {
			t.Errorf("Longest(%v) = %v, error %d, want %v", c.o, got, err, c.want)
		}
	}
}

func TestC1LongestByAllChains(t *testing.T) {
	for _, o := range tried() {
		want := slices.MinFunc(allChains(o), func(a, b []int) int {
			if len(a) != len(b) {
				return len(b) - len(a)
			}
			return slices.Compare(a, b)
		})
		if got, err := Longest(o); err != api.OK || !slices.Equal(got, want) {
			t.Fatalf("Longest(%v) = %v, error %d, want %v", o, got, err, want)
		}
	}
}

func TestC1Levels(t *testing.T) {
	for _, c := range []struct {
		o    api.Order
		want []int
	}{
		{api.Order{}, nil},
		{below(0, 0), []int{3}},
		{below(0, 1, 3), []int{1, 2, 4}},
		{below(8, 8, 11, 0), []int{8, 3, 4}},
		{samples.Apart(), []int{1023}},
		{samples.Storeys(), []int{3, 12, 48, 192, 768}},
	} {
		if got, err := Levels(c.o); err != api.OK || !slices.Equal(got, c.want) {
			t.Errorf("Levels(%v) = %v, error %d, want %v", c.o, got, err, c.want)
		}
	}
	for _, o := range tried() {
		heights, _ := Heights(o)
		levels, err := Levels(o)
		union := 0
		for height, level := range levels {
			union |= level
			for p := range o.N {
				if (level>>p&1 == 1) != (heights[p] == height) {
					t.Fatalf("Levels(%v) = %v with the heights %v", o, levels, heights)
				}
			}
		}
		if err != api.OK || union != 1<<o.N-1 || slices.Contains(levels, 0) {
			t.Fatalf("Levels(%v) = %v, error %d", o, levels, err)
		}
	}
}

func TestC1Graded(t *testing.T) {
	for _, c := range []struct {
		o    api.Order
		want bool
	}{
		{api.Order{}, true},
		{below(0), true},
		{samples.Apart(), true},
		{samples.Rising(), true},
		{samples.Storeys(), true},
		{samples.Falling(), true},
		{below(0, 0, 3, 2), true},
		{below(0, 1, 1, 7), true},
		// One of the two below the top begins a chain of its own there.
		{below(0, 1, 11, 0), false},
		// Two ways from the bottom to the top, one of them shorter.
		{below(0, 1, 3, 1, 15), false},
	} {
		if got, err := Graded(c.o); err != api.OK || got != c.want {
			t.Errorf("Graded(%v) = %v, error %d, want %v", c.o, got, err, c.want)
		}
	}
	for _, o := range tried() {
		if got, err := Graded(o); err != api.OK || got != plainlyGraded(o) {
			t.Fatalf("Graded(%v) = %v, error %d", o, got, err)
		}
	}
}

// plainlyGraded asks it of each two points by the words of C1.
func plainlyGraded(o api.Order) bool {
	heights, _ := Heights(o)
	for a := range o.N {
		for b := range o.N {
			covers := samples.IsBelow(o, a, b)
			for c := range o.N {
				covers = covers && !(samples.IsBelow(o, a, c) && samples.IsBelow(o, c, b))
			}
			if covers && heights[b] != heights[a]+1 {
				return false
			}
		}
	}
	return true
}

func TestC1Chains(t *testing.T) {
	for _, c := range []struct {
		o    api.Order
		want []int
	}{
		{api.Order{}, []int{1}},
		{below(0), []int{1, 1}},
		{below(0, 0), []int{1, 2}},
		{below(0, 1, 3), []int{1, 3, 3, 1}},
		{below(8, 8, 11, 0), []int{1, 4, 5, 2}},
		{samples.Apart(), []int{1, 10}},
		{samples.Rising(), []int{1, 10, 45, 120, 210, 252, 210, 120, 45, 10, 1}},
		{samples.Falling(), []int{1, 10, 45, 120, 210, 252, 210, 120, 45, 10, 1}},
		{samples.Storeys(), []int{1, 10, 40, 80, 80, 32}},
	} {
		if got, err := Chains(c.o); err != api.OK || !slices.Equal(got, c.want) {
			t.Errorf("Chains(%v) = %v, error %d, want %v", c.o, got, err, c.want)
		}
	}
	for _, o := range tried() {
		var want []int
		for _, chain := range allChains(o) { // the shorter ones come first
			if len(chain) == len(want) {
				want = append(want, 0)
			}
			want[len(chain)]++
		}
		if got, err := Chains(o); err != api.OK || !slices.Equal(got, want) {
			t.Fatalf("Chains(%v) = %v, error %d, want %v", o, got, err, want)
		}
	}
}

func TestC2Mirsky(t *testing.T) {
	for _, o := range tried() {
		levels, _ := Levels(o)
		longest, _ := Longest(o)
		chains, _ := Chains(o)
		if len(levels) != len(longest) || len(chains) != len(longest)+1 {
			t.Fatalf("%v: levels %v, longest chain %v, chains %v", o, levels, longest, chains)
		}
		for i, p := range longest {
			if i > 0 && !samples.IsBelow(o, longest[i-1], p) {
				t.Fatalf("Longest(%v) = %v is no chain", o, longest)
			}
		}
		for _, level := range levels {
			if !isAntichain(o, level) {
				t.Fatalf("%v: the level %d is no antichain", o, level)
			}
		}
		if fewest := fewestAntichains(o); fewest != len(levels) {
			t.Fatalf("%v: %d antichains are enough, there are the levels %v", o, fewest, levels)
		}
	}
}

func isAntichain(o api.Order, set int) bool {
	for p := range o.N {
		if set>>p&1 == 1 && o.Below[p]&set != 0 {
			return false
		}
	}
	return true
}

// fewestAntichains into which all points can be parted, found set by set.
func fewestAntichains(o api.Order) int {
	fewest := make([]int, 1<<o.N)
	var antichains []int
	for set := 1; set < 1<<o.N; set++ {
		if isAntichain(o, set) {
			antichains = append(antichains, set)
		}
		fewest[set] = o.N
		for _, a := range antichains {
			if a&^set == 0 {
				fewest[set] = min(fewest[set], fewest[set&^a]+1)
			}
		}
	}
	return fewest[1<<o.N-1]
}

// lists are the calls that answer one.
func lists() map[string]func(api.Order) ([]int, api.Errno) {
	return map[string]func(api.Order) ([]int, api.Errno){"Heights": Heights, "Longest": Longest, "Levels": Levels, "Chains": Chains}
}

func TestA1CheckIsToldFirst(t *testing.T) {
	for _, w := range samples.WrongOrders() {
		for name, call := range lists() {
			if got, err := call(w.Order); err != w.Err || got != nil {
				t.Errorf("%s(%v) = %v, error %d, want error %d", name, w.Order, got, err, w.Err)
			}
		}
		if got, err := Graded(w.Order); err != w.Err || got {
			t.Errorf("Graded(%v) = %v, error %d, want error %d", w.Order, got, err, w.Err)
		}
	}
}

func TestP2P3OnlyReadAndTheSameEachTime(t *testing.T) {
	list, room := samples.Roomy(8, 8, 11, 0)
	before := slices.Clone(room)
	o := below(list...)
	for name, call := range lists() {
		first, _ := call(o)
		want := slices.Clone(first)
		samples.Spoil(first)
		if again, err := call(o); err != api.OK || !slices.Equal(again, want) {
			t.Errorf("%s: %v, and then %v, error %d", name, want, again, err)
		}
	}
	Graded(o)
	if !slices.Equal(room, before) {
		t.Errorf("what was handed in was changed: %v", room)
	}
}
