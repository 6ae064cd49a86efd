package chain

import (
	"math/bits"
	"slices"
	"testing"

	"hasse/api"
	"hasse/samples"
)

// below tells an order by its sets.
func below(sets ...int) api.Order { return samples.Below(sets...) }

func size(set int) int { return bits.OnesCount(uint(set)) }

// greedy is an order whose longest chain, 0 1 2 3, is in no two chains that have all six points: 4 is below 2, and 5 above 1.
func greedy() api.Order { return below(0, 1, 19, 23, 0, 3) }

// tried orders: all small ones and some great ones.
func tried() []api.Order {
	return append(samples.SmallOrders(), append(samples.GreatOrders(200), samples.Apart(), samples.Rising(), samples.Falling(), samples.Storeys(), greedy())...)
}

// allOf the sets of an order's points of which each two are asked alike.
func allOf(o api.Order, ask func(a, b int) bool) []int {
	var found []int
every:
	for set := range 1 << o.N {
		for b := range o.N {
			for a := range b {
				if set>>a&1 == 1 && set>>b&1 == 1 && !ask(a, b) {
					continue every
				}
			}
		}
		found = append(found, set)
	}
	return found
}

func chains(o api.Order) []int {
	return allOf(o, func(a, b int) bool { return samples.IsBelow(o, a, b) || samples.IsBelow(o, b, a) })
}

func antichains(o api.Order) []int {
	return allOf(o, func(a, b int) bool { return !samples.IsBelow(o, a, b) && !samples.IsBelow(o, b, a) })
}

// plainGains by the words of E2: all sets that one, two, three and more of some have together.
func plainGains(kinds []int) []int {
	var gains []int
	most, together := 0, map[int]int{0: 1}
	for {
		more := map[int]int{}
		for set := range together {
			for _, kind := range kinds {
				more[set|kind] = 1
			}
		}
		now := 0
		for set := range more {
			now = max(now, size(set))
		}
		if now == most {
			return gains
		}
		gains = append(gains, now-most)
		most, together = now, more
	}
}

func TestE1Widest(t *testing.T) {
	for _, c := range []struct {
		o    api.Order
		want int
	}{
		{api.Order{}, 0},
		{below(0), 1},
		{below(0, 0), 3},
		{below(0, 1), 1},
		{below(2, 0), 1},
		{below(0, 1, 3), 1},
		{below(0, 1, 0, 4), 5},
		{below(8, 8, 11, 0), 3},
		{below(0, 0, 3, 2), 3},
		// The lowest level, 12, is as wide, but a greater number.
		{below(12, 8, 0, 0), 3},
		// So is 10, the level above it.
		{below(0, 5, 0, 4), 5},
		{samples.Apart(), 1023},
		{samples.Rising(), 1},
		{samples.Falling(), 1},
		{samples.Storeys(), 3},
		{greedy(), 17},
	} {
		if got, err := Widest(c.o); err != api.OK || got != c.want {
			t.Errorf("Widest(%v) = %d, error %d, want %d", c.o, got, err, c.want)
		}
	}
	for _, o := range tried() {
		want := slices.MinFunc(antichains(o), func(a, b int) int {
			if size(a) != size(b) {
				return size(b) - size(a)
			}
			return a - b
		})
		if got, err := Widest(o); err != api.OK || got != want {
			t.Fatalf("Widest(%v) = %d, error %d, want %d", o, got, err, want)
		}
	}
}

// arePartsOf tells whether lists are chains, none empty, each from its least point up, that have each point once.
func arePartsOf(o api.Order, parts [][]int) bool {
	seen := make([]int, o.N)
	for _, part := range parts {
		if len(part) == 0 {
			return false
		}
		for i, p := range part {
			if p < 0 || p >= o.N || i > 0 && !samples.IsBelow(o, part[i-1], p) {
				return false
			}
			seen[p]++
		}
	}
	return !slices.ContainsFunc(seen, func(times int) bool { return times != 1 })
}

// fewestChains that have all points, found set by set.
func fewestChains(o api.Order) int {
	all := chains(o)[1:]
	fewest := make([]int, 1<<o.N)
	for set := 1; set < 1<<o.N; set++ {
		fewest[set] = o.N
		for _, chain := range all {
			if chain&^set == 0 {
				fewest[set] = min(fewest[set], fewest[set&^chain]+1)
			}
		}
	}
	return fewest[1<<o.N-1]
}

func TestE1Parts(t *testing.T) {
	for _, c := range []struct {
		o    api.Order
		want int
	}{
		{api.Order{}, 0},
		{below(0), 1},
		{below(0, 0), 2},
		{below(2, 0), 1},
		{below(0, 0, 3, 2), 2},
		{samples.Apart(), 10},
		{samples.Rising(), 1},
		{samples.Falling(), 1},
		{samples.Storeys(), 2},
		{greedy(), 2},
	} {
		if got, err := Parts(c.o); err != api.OK || len(got) != c.want || !arePartsOf(c.o, got) {
			t.Errorf("Parts(%v) = %v, error %d, want %d chains", c.o, got, err, c.want)
		}
	}
	for _, o := range tried() {
		if got, err := Parts(o); err != api.OK || !arePartsOf(o, got) || len(got) != fewestChains(o) {
			t.Fatalf("Parts(%v) = %v, error %d, want %d chains", o, got, err, fewestChains(o))
		}
	}
}

func TestE2(t *testing.T) {
	for _, c := range []struct {
		o                      api.Order
		byChains, byAntichains []int
	}{
		{api.Order{}, nil, nil},
		{below(0), []int{1}, []int{1}},
		{below(0, 0), []int{1, 1}, []int{2}},
		{below(0, 1), []int{2}, []int{1, 1}},
		{below(0, 0, 3, 2), []int{2, 2}, []int{2, 2}},
		{below(8, 8, 11, 0), []int{3, 1}, []int{2, 1, 1}},
		{samples.Apart(), slices.Repeat([]int{1}, 10), []int{10}},
		{samples.Rising(), []int{10}, slices.Repeat([]int{1}, 10)},
		{samples.Falling(), []int{10}, slices.Repeat([]int{1}, 10)},
		{samples.Storeys(), []int{5, 5}, []int{2, 2, 2, 2, 2}},
		{greedy(), []int{4, 2}, []int{2, 2, 1, 1}},
	} {
		if got, err := ByChains(c.o); err != api.OK || !slices.Equal(got, c.byChains) {
			t.Errorf("ByChains(%v) = %v, error %d, want %v", c.o, got, err, c.byChains)
		}
		if got, err := ByAntichains(c.o); err != api.OK || !slices.Equal(got, c.byAntichains) {
			t.Errorf("ByAntichains(%v) = %v, error %d, want %v", c.o, got, err, c.byAntichains)
		}
	}
}

func TestE2ByAllTogether(t *testing.T) {
	for _, o := range tried() {
		want := plainGains(chains(o))
		if got, err := ByChains(o); err != api.OK || !slices.Equal(got, want) {
			t.Fatalf("ByChains(%v) = %v, error %d, want %v", o, got, err, want)
		}
		want = plainGains(antichains(o))
		if got, err := ByAntichains(o); err != api.OK || !slices.Equal(got, want) {
			t.Fatalf("ByAntichains(%v) = %v, error %d, want %v", o, got, err, want)
		}
	}
}

func TestE3DilworthAndGreene(t *testing.T) {
	for _, o := range append(tried(), samples.GreatOrders(1000)...) {
		widest, _ := Widest(o)
		parts, _ := Parts(o)
		first, _ := ByChains(o)
		second, _ := ByAntichains(o)
		if len(parts) != size(widest) || len(first) != len(parts) {
			t.Fatalf("%v: %d chains, the widest antichain is %d, by chains %v", o, len(parts), widest, first)
		}
		if o.N > 0 && second[0] != size(widest) {
			t.Fatalf("%v: by antichains %v, the widest one is %d", o, second, widest)
		}
		for _, gains := range [][]int{first, second} {
			sum := 0
			for i, gain := range gains {
				sum += gain
				if gain < 1 || i > 0 && gain > gains[i-1] {
					t.Fatalf("%v: %v does not fall", o, gains)
				}
			}
			if sum != o.N {
				t.Fatalf("%v: %v are not all points", o, gains)
			}
		}
		for k := 1; k <= o.N; k++ {
			want, got := 0, 0
			for _, gain := range first {
				if gain >= k {
					want++
				}
			}
			if k <= len(second) {
				got = second[k-1]
			}
			if got != want {
				t.Fatalf("%v: by chains %v, by antichains %v", o, first, second)
			}
		}
	}
}

func TestA1CheckIsToldFirst(t *testing.T) {
	for _, w := range samples.WrongOrders() {
		if got, err := Widest(w.Order); err != w.Err || got != 0 {
			t.Errorf("Widest(%v) = %d, error %d, want error %d", w.Order, got, err, w.Err)
		}
		if got, err := Parts(w.Order); err != w.Err || got != nil {
			t.Errorf("Parts(%v) = %v, error %d, want error %d", w.Order, got, err, w.Err)
		}
		if got, err := ByChains(w.Order); err != w.Err || got != nil {
			t.Errorf("ByChains(%v) = %v, error %d, want error %d", w.Order, got, err, w.Err)
		}
		if got, err := ByAntichains(w.Order); err != w.Err || got != nil {
			t.Errorf("ByAntichains(%v) = %v, error %d, want error %d", w.Order, got, err, w.Err)
		}
	}
}

func TestP2P3OnlyReadAndTheSameEachTime(t *testing.T) {
	list, room := samples.Roomy(0, 0, 3, 2, 7)
	before := slices.Clone(room)
	o := below(list...)
	for name, call := range map[string]func(api.Order) ([]int, api.Errno){"ByChains": ByChains, "ByAntichains": ByAntichains} {
		first, _ := call(o)
		want := slices.Clone(first)
		samples.Spoil(first)
		if again, err := call(o); err != api.OK || !slices.Equal(again, want) {
			t.Errorf("%s: %v, and then %v, error %d", name, want, again, err)
		}
	}
	if !slices.Equal(room, before) {
		t.Errorf("what was handed in was changed: %v", room)
	}
}

func TestP2P3PartsShareNothing(t *testing.T) {
	list, room := samples.Roomy(0, 0, 3, 2, 7)
	before := slices.Clone(room)
	o := below(list...)
	parts, _ := Parts(o)
	var want [][]int
	for _, part := range parts {
		want = append(want, slices.Clone(part))
	}
	for i, part := range parts {
		if !slices.Equal(part, want[i]) {
			t.Errorf("part %d was %v, and is %v", i, want[i], part)
		}
		samples.Spoil(part)
	}
	again, err := Parts(o)
	if err != api.OK || !slices.EqualFunc(again, want, slices.Equal) {
		t.Errorf("Parts: %v, and then %v, error %d", want, again, err)
	}
	Widest(o)
	if !slices.Equal(room, before) {
		t.Errorf("what was handed in was changed: %v", room)
	}
}
