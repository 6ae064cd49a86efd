package complete

import (
	"math"
	"reflect"
	"slices"
	"testing"

	"hasse/api"
	"hasse/samples"
)

// below tells an order by its sets.
func below(sets ...int) api.Order { return samples.Below(sets...) }

// crown of n points, and above them n others, each above all of the first ones but its own.
func crown(n int) api.Order {
	sets := make([]int, 2*n)
	for i := range n {
		sets[n+i] = (1<<n - 1) &^ (1 << i)
	}
	return below(sets...)
}

// tried orders: small ones, all of them, and great ones.
func tried() []api.Order {
	orders := append(samples.SmallOrders(), samples.NaturalOrders(5)...)
	orders = append(orders, samples.GreatOrders(300)...)
	draw := new(samples.Draw)
	for n := 2; n <= 5; n++ {
		orders = append(orders, crown(n), samples.Renumbered(crown(n), draw))
	}
	return append(orders, samples.Apart(), samples.Rising(), samples.Falling(), samples.Storeys())
}

// isUpTo: a point is another one, or below it.
func isUpTo(o api.Order, lower, upper int) bool {
	return lower == upper || samples.IsBelow(o, lower, upper)
}

func has(set, point int) bool { return set>>point&1 == 1 }

// plainUpper and plainLower by their words.
func plainUpper(o api.Order, set int) int {
	return whoever(o, set, func(point, other int) bool { return isUpTo(o, other, point) })
}

func plainLower(o api.Order, set int) int {
	return whoever(o, set, func(point, other int) bool { return isUpTo(o, point, other) })
}

// whoever is so to each point of a set.
func whoever(o api.Order, set int, so func(point, other int) bool) int {
	found := 0
	for point := range o.N {
		is := true
		for other := range o.N {
			is = is && (!has(set, other) || so(point, other))
		}
		if is {
			found += 1 << point
		}
	}
	return found
}

func plainCuts(o api.Order) []int {
	var cuts []int
	for set := range 1 << o.N {
		if plainLower(o, plainUpper(o, set)) == set {
			cuts = append(cuts, set)
		}
	}
	return cuts
}

func isNothing(l api.Lattice) bool { return l.N == 0 && l.Meet == nil && l.Join == nil }

func TestL1UpperAndLower(t *testing.T) {
	zig := below(0, 0, 3, 2)
	for _, c := range []struct {
		o                 api.Order
		set, upper, lower int
	}{
		{below(), 0, 0, 0},
		{below(0), 0, 1, 1},
		{below(0), 1, 1, 1},
		{below(0, 0), 0, 3, 3},
		{below(0, 0), 1, 1, 1},
		{below(0, 0), 3, 0, 0},
		{below(0, 1), 1, 3, 1},
		{below(0, 1), 3, 2, 1},
		{below(2, 0), 1, 1, 3},
		{zig, 0, 15, 15},
		{zig, 1, 5, 1},
		{zig, 2, 14, 2},
		{zig, 3, 4, 0},
		{zig, 12, 0, 2},
		{samples.Rising(), 48, 992, 31},
		{samples.Falling(), 48, 31, 992},
		{samples.Apart(), 0, 1023, 1023},
	} {
		upper, err1 := Upper(c.o, c.set)
		lower, err2 := Lower(c.o, c.set)
		if err1 != api.OK || err2 != api.OK || upper != c.upper || lower != c.lower {
			t.Errorf("%v: of %d the upper set is %d, the lower one %d, errors %d, %d", c.o, c.set, upper, lower, err1, err2)
		}
	}
}

func TestL1UpperAndLowerByTheirWords(t *testing.T) {
	for _, o := range tried() {
		for set := range 1 << o.N {
			if got, err := Upper(o, set); err != api.OK || got != plainUpper(o, set) {
				t.Fatalf("Upper(%v, %d) = %d, error %d, want %d", o, set, got, err, plainUpper(o, set))
			}
			if got, err := Lower(o, set); err != api.OK || got != plainLower(o, set) {
				t.Fatalf("Lower(%v, %d) = %d, error %d, want %d", o, set, got, err, plainLower(o, set))
			}
		}
	}
}

func TestL1WhatIsNoPoint(t *testing.T) {
	for _, o := range tried() {
		for _, set := range []int{-1, 1 << o.N, 1<<o.N + 1, 1<<63 - 1, math.MinInt, 1 << 40} {
			if got, err := Upper(o, set); err != api.ErrRange || got != 0 {
				t.Fatalf("Upper(%v, %d) = %d, error %d", o, set, got, err)
			}
			if got, err := Lower(o, set); err != api.ErrRange || got != 0 {
				t.Fatalf("Lower(%v, %d) = %d, error %d", o, set, got, err)
			}
		}
	}
}

func TestL1Cuts(t *testing.T) {
	for _, c := range []struct {
		o    api.Order
		want []int
	}{
		{below(), []int{0}},
		{api.Order{Below: []int{}}, []int{0}},
		{below(0), []int{1}},
		{below(0, 0), []int{0, 1, 2, 3}},
		{below(0, 1), []int{1, 3}},
		{below(2, 0), []int{2, 3}},
		{below(0, 0, 0), []int{0, 1, 2, 4, 7}},
		{below(0, 1, 1), []int{1, 3, 5, 7}},
		{below(0, 0, 3), []int{0, 1, 2, 7}},
		// Two below two others: between them one is put.
		{below(0, 0, 3, 3), []int{0, 1, 2, 3, 7, 11, 15}},
		{samples.Rising(), []int{1, 3, 7, 15, 31, 63, 127, 255, 511, 1023}},
		{samples.Falling(), []int{512, 768, 896, 960, 992, 1008, 1016, 1020, 1022, 1023}},
		{samples.Apart(), []int{0, 1, 2, 4, 8, 16, 32, 64, 128, 256, 512, 1023}},
	} {
		if got, err := Cuts(c.o); err != api.OK || !slices.Equal(got, c.want) {
			t.Errorf("Cuts(%v) = %v, error %d, want %v", c.o, got, err, c.want)
		}
	}
}

func TestL1CutsByTheirWords(t *testing.T) {
	for _, o := range tried() {
		if got, err := Cuts(o); err != api.OK || !slices.Equal(got, plainCuts(o)) {
			t.Fatalf("Cuts(%v) = %v, error %d, want %v", o, got, err, plainCuts(o))
		}
	}
}

func TestL2Fill(t *testing.T) {
	square := samples.TimesLattice(samples.ChainLattice(2), samples.ChainLattice(2))
	for _, c := range []struct {
		o      api.Order
		want   api.Lattice
		places []int
	}{
		{below(), samples.ChainLattice(1), nil},
		{below(0), samples.ChainLattice(1), []int{0}},
		{below(0, 0), square, []int{1, 2}},
		{below(0, 1), samples.ChainLattice(2), []int{0, 1}},
		{below(2, 0), samples.ChainLattice(2), []int{1, 0}},
		{below(0, 0, 0), samples.StarLattice(5), []int{1, 2, 3}},
		{below(0, 0, 3), square, []int{1, 2, 3}},
		{below(0, 1, 1), square, []int{0, 1, 2}},
		{below(6, 0, 0), square, []int{3, 1, 2}},
		{samples.Rising(), samples.ChainLattice(10), []int{0, 1, 2, 3, 4, 5, 6, 7, 8, 9}},
		{samples.Falling(), samples.ChainLattice(10), []int{9, 8, 7, 6, 5, 4, 3, 2, 1, 0}},
		{samples.Apart(), samples.StarLattice(12), []int{1, 2, 3, 4, 5, 6, 7, 8, 9, 10}},
	} {
		l, places, err := Fill(c.o)
		if err != api.OK || !reflect.DeepEqual(l, c.want) || !slices.Equal(places, c.places) {
			t.Errorf("Fill(%v) = %v, %v, error %d, want %v, %v", c.o, l, places, err, c.want, c.places)
		}
	}
}

func TestL2ByItsWords(t *testing.T) {
	for _, o := range tried() {
		cuts := plainCuts(o)
		l, places, err := Fill(o)
		if err != api.OK || l.N != len(cuts) || len(places) != o.N || !samples.IsLattice(l) {
			t.Fatalf("Fill(%v) = %v, %v, error %d", o, l, places, err)
		}
		for x, a := range cuts {
			for y, b := range cuts {
				join := plainLower(o, plainUpper(o, a|b))
				if cuts[l.Meet[x][y]] != a&b || cuts[l.Join[x][y]] != join {
					t.Fatalf("Fill(%v): of %d and %d the Meet is %d, the Join %d", o, a, b, cuts[l.Meet[x][y]], cuts[l.Join[x][y]])
				}
			}
		}
		for point, place := range places {
			if cuts[place] != o.Below[point]+1<<point {
				t.Fatalf("Fill(%v): %d has the cut %d", o, point, cuts[place])
			}
		}
	}
}

func TestL2ACrownIsFilledUpToAllSets(t *testing.T) {
	// Those are the sets of its lower points. No order that was tried has more cuts, so each has room in a lattice; what is told where there is none, the tests of package tables ask.
	for n := 3; n <= 5; n++ {
		if l, places, err := Fill(crown(n)); err != api.OK || l.N != 1<<n || len(places) != 2*n {
			t.Errorf("a crown of two times %d points: %d, %v, error %d", n, l.N, places, err)
		}
	}
	for _, o := range tried() {
		if l, _, err := Fill(o); err != api.OK || l.N > 32 {
			t.Errorf("Fill(%v) has %d, error %d", o, l.N, err)
		}
	}
}

func TestL3PointsAreBelowOneAnotherJustAsTheirCuts(t *testing.T) {
	for _, o := range tried() {
		l, places, err := Fill(o)
		if err != api.OK {
			t.Fatalf("Fill(%v): error %d", o, err)
		}
		for a := range o.N {
			for b := range o.N {
				if isUpTo(o, a, b) != (l.Meet[places[a]][places[b]] == places[a]) {
					t.Fatalf("Fill(%v) = %v, %v, but %d and %d", o, l, places, a, b)
				}
			}
		}
	}
}

func TestL3EachCutIsJoinAndMeetOfPointsCuts(t *testing.T) {
	for _, o := range tried() {
		l, places, err := Fill(o)
		if err != api.OK {
			t.Fatalf("Fill(%v): error %d", o, err)
		}
		least, greatest := 0, 0
		for x := range l.N {
			least, greatest = l.Meet[least][x], l.Join[greatest][x]
		}
		for x := range l.N {
			// Of no points the Join is the least cut, and the Meet the greatest one.
			join, meet := least, greatest
			for _, place := range places {
				if l.Meet[place][x] == place {
					join = l.Join[join][place]
				}
				if l.Meet[place][x] == x {
					meet = l.Meet[meet][place]
				}
			}
			if join != x || meet != x {
				t.Fatalf("Fill(%v) = %v, %v: %d is not the Join %d and the Meet %d", o, l, places, x, join, meet)
			}
		}
	}
}

func TestL3OfALatticesOrderThereIsNothingToFill(t *testing.T) {
	lattices := 0
	for _, o := range tried() {
		want, is := samples.LatticeOf(o)
		l, places, err := Fill(o)
		if err != api.OK || is != (l.N == o.N && o.N > 0) {
			t.Fatalf("Fill(%v) = %v, error %d", o, l, err)
		}
		if is {
			lattices++
			isNumberedAnew(t, want, l, places)
		}
		// What is filled up once has nothing more to fill.
		if l.N <= api.MaxPoints {
			full := orderOf(l)
			again, names, err := Fill(full)
			if err != api.OK || again.N != l.N {
				t.Fatalf("Fill(%v) = %v, error %d", full, again, err)
			}
			isNumberedAnew(t, l, again, names)
		}
	}
	if lattices < 50 {
		t.Errorf("only %d lattices were tried", lattices)
	}
}

// orderOf a lattice, told by Join.
func orderOf(l api.Lattice) api.Order {
	sets := make([]int, l.N)
	for x := range l.N {
		for y := range l.N {
			if x != y && l.Join[x][y] == y {
				sets[y] += 1 << x
			}
		}
	}
	return below(sets...)
}

// isNumberedAnew: a lattice is another one whose elements have new names.
func isNumberedAnew(t *testing.T, old, anew api.Lattice, names []int) {
	t.Helper()
	for x := range old.N {
		for y := range old.N {
			if anew.Meet[names[x]][names[y]] != names[old.Meet[x][y]] || anew.Join[names[x]][names[y]] != names[old.Join[x][y]] {
				t.Fatalf("%v is not %v by the names %v", old, anew, names)
			}
		}
	}
}

// turned over: below is above.
func turned(o api.Order) api.Order {
	sets := make([]int, o.N)
	for a := range o.N {
		for b := range o.N {
			if samples.IsBelow(o, a, b) {
				sets[a] += 1 << b
			}
		}
	}
	return below(sets...)
}

func TestL3FilledUpADualIsTurnedOver(t *testing.T) {
	for _, o := range tried() {
		l, places, err1 := Fill(o)
		cuts, err2 := Cuts(o)
		dual, itsPlaces, err3 := Fill(turned(o))
		itsCuts, err4 := Cuts(turned(o))
		if err1 != api.OK || err2 != api.OK || err3 != api.OK || err4 != api.OK || dual.N != l.N {
			t.Fatalf("%v has %d, turned over %d; errors %d, %d, %d, %d", o, l.N, dual.N, err1, err2, err3, err4)
		}
		names := make([]int, l.N)
		for x, cut := range cuts {
			upper, err := Upper(o, cut)
			if names[x] = slices.Index(itsCuts, upper); err != api.OK || names[x] < 0 {
				t.Fatalf("%v: of the cut %d the upper set %d is none of %v", o, cut, upper, itsCuts)
			}
		}
		isNumberedAnew(t, api.Lattice{N: l.N, Meet: l.Join, Join: l.Meet}, dual, names)
		for point, place := range places {
			if names[place] != itsPlaces[point] {
				t.Fatalf("%v: %d is at %d, turned over at %d", o, point, place, itsPlaces[point])
			}
		}
	}
}

func TestA1CheckIsToldFirst(t *testing.T) {
	for _, w := range samples.WrongOrders() {
		for _, set := range []int{0, 1, -1, 1 << 20, math.MaxInt, math.MinInt} {
			if got, err := Upper(w.Order, set); err != w.Err || got != 0 {
				t.Errorf("Upper(%v, %d) = %d, error %d, want error %d", w.Order, set, got, err, w.Err)
			}
			if got, err := Lower(w.Order, set); err != w.Err || got != 0 {
				t.Errorf("Lower(%v, %d) = %d, error %d, want error %d", w.Order, set, got, err, w.Err)
			}
		}
		if got, err := Cuts(w.Order); err != w.Err || got != nil {
			t.Errorf("Cuts(%v) = %v, error %d, want error %d", w.Order, got, err, w.Err)
		}
		if l, places, err := Fill(w.Order); err != w.Err || !isNothing(l) || places != nil {
			t.Errorf("Fill(%v) = %v, %v, error %d, want error %d", w.Order, l, places, err, w.Err)
		}
	}
}

func TestP2P3OnlyReadAndTheSameEachTime(t *testing.T) {
	for _, o := range []api.Order{below(), below(0), below(0, 1, 0), samples.Falling(), samples.Storeys(), crown(5)} {
		list, room := samples.Roomy(o.Below...)
		roomy := api.Order{N: o.N, Below: list}
		before := slices.Clone(room)
		wantCuts, _ := Cuts(o)
		want, wantPlaces, _ := Fill(o)
		for range 2 {
			cuts, _ := Cuts(roomy)
			l, places, _ := Fill(roomy)
			if !slices.Equal(cuts, wantCuts) || !reflect.DeepEqual(l, want) || !slices.Equal(places, wantPlaces) {
				t.Fatalf("%v: %v, %v, %v", o, cuts, l, places)
			}
			answers := append(samples.Rows(l), cuts, places)
			if samples.Shared(append(answers, room)...) {
				t.Fatalf("the answers of %v share memory", o)
			}
			for _, answer := range answers {
				samples.Spoil(answer)
			}
			for set := range 1 << o.N {
				upper, _ := Upper(roomy, set)
				lower, _ := Lower(roomy, set)
				if upper != plainUpper(o, set) || lower != plainLower(o, set) {
					t.Fatalf("%v: of %d the sets are %d and %d", o, set, upper, lower)
				}
			}
		}
		if !slices.Equal(room, before) {
			t.Errorf("%v was changed: %v", o, room)
		}
	}
}
