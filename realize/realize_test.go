package realize

import (
	"math"
	"slices"
	"testing"

	"hasse/api"
	"hasse/chain"
	"hasse/order"
	"hasse/samples"
)

// below tells an order by its sets.
func below(sets ...int) api.Order { return samples.Below(sets...) }

// crown: three points below three others, each below the two that are not over against it. It is the least order that two rows do not say.
func crown() api.Order { return below(0, 0, 0, 6, 5, 3) }

// crowned orders: the crown with a seventh point, put below some and above others in all ways.
func crowned() []api.Order {
	var orders []api.Order
	draw := new(samples.Draw)
	for lower := range 64 {
		for upper := range 64 {
			sets := append(crown().Below, lower)
			for p := range 6 {
				sets[p] |= upper >> p & 1 << 6
			}
			if samples.IsOrder(sets) {
				orders = append(orders, samples.Renumbered(below(sets...), draw))
			}
		}
	}
	return orders
}

// tried orders: all of up to six points and some of seven, numbered any way.
func tried() []api.Order {
	orders := append(samples.SmallOrders(), crowned()...)
	draw := new(samples.Draw)
	for n := 5; n <= 6; n++ {
		for _, o := range samples.NaturalOrders(n) {
			orders = append(orders, samples.Renumbered(o, draw))
		}
	}
	for _, o := range samples.GreatOrders(2000) {
		if o.N == 7 {
			orders = append(orders, o)
		}
	}
	return orders
}

// agreed: the order by the words of G1.
func agreed(n int, rows [][]int) api.Order {
	sets := make([]int, n)
	for a := range n {
		for b := range n {
			if a != b && !slices.ContainsFunc(rows, func(row []int) bool { return !samples.Stands(row, a, b) }) {
				sets[b] |= 1 << a
			}
		}
	}
	return below(sets...)
}

// same holds orders against each other, an empty list being like none.
func same(a, b api.Order) bool { return a.N == b.N && slices.Equal(a.Below, b.Below) }

func isNothing(o api.Order) bool { return o.N == 0 && o.Below == nil }

func TestG1Of(t *testing.T) {
	for _, c := range []struct {
		n    int
		rows [][]int
		want []int
	}{
		{0, [][]int{{}}, nil},
		{0, [][]int{nil, {}, nil}, nil},
		{1, [][]int{{0}}, []int{0}},
		{2, [][]int{{1, 0}}, []int{2, 0}},
		{2, [][]int{{1, 0}, {0, 1}}, []int{0, 0}},
		{3, [][]int{{0, 1, 2}}, []int{0, 1, 3}},
		{3, [][]int{{0, 1, 2}, {2, 0, 1}}, []int{0, 1, 0}},
		{3, [][]int{{0, 1, 2}, {0, 1, 2}, {0, 1, 2}}, []int{0, 1, 3}},
		{4, [][]int{{0, 1, 2, 3}, {1, 3, 0, 2}}, []int{0, 0, 3, 2}},
		{10, [][]int{{9, 8, 7, 6, 5, 4, 3, 2, 1, 0}}, samples.Falling().Below},
		{10, slices.Repeat([][]int{{0, 1, 2, 3, 4, 5, 6, 7, 8, 9}}, 10), samples.Rising().Below},
		{10, [][]int{{0, 1, 2, 3, 4, 5, 6, 7, 8, 9}, {1, 0, 3, 2, 5, 4, 7, 6, 9, 8}}, samples.Storeys().Below},
	} {
		if got, err := Of(c.n, c.rows); err != api.OK || got.N != c.n || !slices.Equal(got.Below, c.want) {
			t.Errorf("Of(%d, %v) = %v, error %d, want %v", c.n, c.rows, got, err, c.want)
		}
	}
}

func TestG1ByItsWords(t *testing.T) {
	all := samples.Lists(4)
	for i, first := range all {
		for _, second := range all {
			for _, third := range all[i%6*4:][:4] {
				for k := range 3 {
					rows := [][]int{first, second, third}[:k+1]
					if got, err := Of(4, rows); err != api.OK || !same(got, agreed(4, rows)) {
						t.Fatalf("Of(4, %v) = %v, error %d, want %v", rows, got, err, agreed(4, rows))
					}
				}
			}
		}
	}
}

func TestG1Wrong(t *testing.T) {
	for _, c := range []struct {
		n    int
		rows [][]int
		want api.Errno
	}{
		{-1, [][]int{{}}, api.ErrMany},
		{11, [][]int{{0, 1, 2, 3, 4, 5, 6, 7, 8, 9, 10}}, api.ErrMany},
		{math.MinInt, [][]int{{0}}, api.ErrMany},
		{math.MaxInt, [][]int{{0}}, api.ErrMany},
		{0, nil, api.ErrMany},
		{3, nil, api.ErrMany},
		{3, [][]int{}, api.ErrMany},
		{0, make([][]int, 11), api.ErrMany},
		{3, make([][]int, 11), api.ErrMany},
		{1, slices.Repeat([][]int{{0}}, 11), api.ErrMany},
		{0, [][]int{{0}}, api.ErrForm},
		{3, [][]int{nil}, api.ErrForm},
		{3, [][]int{{0, 1}}, api.ErrForm},
		{3, [][]int{{0, 1, 2, 0}}, api.ErrForm},
		{3, [][]int{{0, 1, 2, 3}}, api.ErrForm},
		{3, [][]int{{0, 0, 1}}, api.ErrForm},
		{3, [][]int{{0, 2, 2}}, api.ErrForm},
		{3, [][]int{{0, 1, 3}}, api.ErrForm},
		{3, [][]int{{-1, 0, 1}}, api.ErrForm},
		{3, [][]int{{math.MinInt, 0, 1}}, api.ErrForm},
		{3, [][]int{{0, 1, math.MaxInt}}, api.ErrForm},
		{3, [][]int{{0, 1, 64}}, api.ErrForm},
		{3, [][]int{{0, 1, 2}, {2, 1, 0}, {1, 1, 0}}, api.ErrForm},
		{3, make([][]int, 10), api.ErrForm},
	} {
		if got, err := Of(c.n, c.rows); err != c.want || !isNothing(got) {
			t.Errorf("Of(%d, %v) = %v, error %d, want error %d", c.n, c.rows, got, err, c.want)
		}
	}
}

// saying tells whether lists are rows of an order that say it.
func saying(o api.Order, rows [][]int) bool {
	for _, row := range rows {
		met := slices.Sorted(slices.Values(row))
		if len(met) != o.N || len(slices.Compact(met)) != o.N || o.N > 0 && (met[0] != 0 || met[o.N-1] != o.N-1) {
			return false
		}
	}
	return len(rows) > 0 && same(agreed(o.N, rows), o)
}

func TestG2Dimension(t *testing.T) {
	for _, c := range []struct {
		o    api.Order
		want int
	}{
		{api.Order{}, 1},
		{api.Order{Below: []int{}}, 1},
		{below(0), 1},
		{below(0, 0), 2},
		{below(2, 0), 1},
		{below(0, 0, 3, 2), 2},
		{below(0, 1, 0, 4), 2},
		{below(8, 8, 11, 0), 2},
		{crown(), 3},
		// The crown with one more: apart from it, above it, in its middle.
		{below(0, 0, 0, 6, 5, 3, 0), 3},
		{below(0, 0, 0, 6, 5, 3, 63), 3},
		{below(0, 0, 0, 71, 71, 71, 7), 2},
		{below(0, 0, 0, 0, 0, 0, 0), 2},
		{below(126, 124, 120, 112, 96, 64, 0), 1},
		// Of three marks all sets but that of none: with it they would be eight.
		{below(0, 0, 3, 0, 9, 10, 63), 3},
	} {
		got, rows, err := Dimension(c.o)
		if err != api.OK || got != c.want || len(rows) != got || !saying(c.o, rows) {
			t.Errorf("Dimension(%v) = %d, %v, error %d, want %d", c.o, got, rows, err, c.want)
		}
	}
}

// told: all pairs of n points of which something is so, as a number.
func told(n int, so func(a, b int) bool) uint64 {
	all := uint64(0)
	for a := range n {
		for b := range n {
			if a != b && so(a, b) {
				all |= 1 << (a*8 + b)
			}
		}
	}
	return all
}

// toldByLists: what each list of n points tells of who stands ahead of whom.
func toldByLists(n int) []uint64 {
	var all []uint64
	for _, list := range samples.Lists(n) {
		all = append(all, told(n, func(a, b int) bool { return samples.Stands(list, a, b) }))
	}
	return all
}

// enough tells whether one list, or two, say an order, by looking at each two that tell no less than it.
func enough(o api.Order, all []uint64) (one, two bool) {
	want := told(o.N, func(a, b int) bool { return samples.IsBelow(o, a, b) })
	var met []uint64
	for _, first := range all {
		if want&^first != 0 {
			continue
		}
		if first == want {
			return true, true
		}
		if slices.ContainsFunc(met, func(second uint64) bool { return first&second == want }) {
			return false, true
		}
		met = append(met, first)
	}
	return false, false
}

func TestG2FewerAreNotEnough(t *testing.T) {
	var all [][]uint64
	for n := range 8 {
		all = append(all, toldByLists(n))
	}
	count := [4]int{}
	for _, o := range tried() {
		got, rows, err := Dimension(o)
		if err != api.OK || got < 1 || got > 3 || len(rows) != got || !saying(o, rows) {
			t.Fatalf("Dimension(%v) = %d, %v, error %d", o, got, rows, err)
		}
		one, two := enough(o, all[o.N])
		if one != (got == 1) || two != (got <= 2) {
			t.Fatalf("Dimension(%v) = %d, but one row is enough: %v, two: %v", o, got, one, two)
		}
		count[got]++
	}
	if count[3] < 50 {
		t.Errorf("too few of dimension 3 were tried: %v", count)
	}
}

func TestG2G3TooMany(t *testing.T) {
	for _, o := range []api.Order{below(make([]int, 8)...), below(0, 1, 3, 7, 15, 31, 63, 127), below(make([]int, 9)...), samples.Apart(), samples.Rising()} {
		if got, rows, err := Dimension(o); err != api.ErrMany || got != 0 || rows != nil {
			t.Errorf("Dimension(%v) = %d, %v, error %d", o, got, rows, err)
		}
		if got, found, err := Turned(o); err != api.ErrMany || found || !isNothing(got) {
			t.Errorf("Turned(%v) = %v, %v, error %d", o, got, found, err)
		}
	}
}

// strange: the pairs, each once, of points that know nothing of one another.
func strange(o api.Order) [][2]int {
	var pairs [][2]int
	for b := range o.N {
		for a := range b {
			if !samples.IsBelow(o, a, b) && !samples.IsBelow(o, b, a) {
				pairs = append(pairs, [2]int{a, b})
			}
		}
	}
	return pairs
}

// canTurn tells whether some way to put one of each strange pair below the other is an order.
func canTurn(o api.Order) bool {
	pairs := strange(o)
	for ways := range 1 << len(pairs) {
		sets := make([]int, o.N)
		for i, p := range pairs {
			way := ways >> i & 1
			sets[p[way]] |= 1 << p[1-way]
		}
		if samples.IsOrder(sets) {
			return true
		}
	}
	return false
}

func isTurned(o, turned api.Order) bool {
	if turned.N != o.N || len(turned.Below) != o.N || !samples.IsOrder(turned.Below) {
		return false
	}
	for b := range o.N {
		for a := range b {
			here := samples.IsBelow(o, a, b) || samples.IsBelow(o, b, a)
			there := samples.IsBelow(turned, a, b) || samples.IsBelow(turned, b, a)
			if here == there {
				return false
			}
		}
	}
	return true
}

func TestG3Turned(t *testing.T) {
	for _, c := range []struct {
		o    api.Order
		want bool
	}{
		{api.Order{}, true},
		{below(0), true},
		{below(0, 0), true},
		{below(0, 1), true},
		{below(0, 0, 3, 2), true},
		{below(126, 124, 120, 112, 96, 64, 0), true},
		{below(0, 0, 0, 0, 0, 0, 0), true},
		{crown(), false},
		{below(0, 0, 0, 6, 5, 3, 63), false},
		{below(0, 0, 0, 71, 71, 71, 7), true},
	} {
		got, found, err := Turned(c.o)
		if err != api.OK || found != c.want || found && !isTurned(c.o, got) || !found && !isNothing(got) {
			t.Errorf("Turned(%v) = %v, %v, error %d, want %v", c.o, got, found, err, c.want)
		}
	}
	for _, o := range tried() {
		got, found, err := Turned(o)
		if err != api.OK || found && !isTurned(o, got) || !found && (!isNothing(got) || canTurn(o)) {
			t.Fatalf("Turned(%v) = %v, %v, error %d", o, got, found, err)
		}
	}
}

func TestG4Theorems(t *testing.T) {
	for i, o := range tried() {
		if o.N > 5 && i%7 > 0 {
			continue
		}
		got, _, _ := Dimension(o)
		if _, found, _ := Turned(o); found != (got <= 2) {
			t.Fatalf("%v: dimension %d, turned: %v", o, got, found)
		}
		dual, _ := order.Dual(o)
		if back, _, _ := Dimension(dual); back != got {
			t.Fatalf("%v: dimension %d, the dual's is %d", o, got, back)
		}
		for p := range o.N {
			part, _ := order.Part(o, 1<<o.N-1&^(1<<p))
			if less, _, _ := Dimension(part); less > got {
				t.Fatalf("%v: dimension %d, without %d it is %d", o, got, p, less)
			}
		}
		chains, _ := chain.Parts(o)
		if got > max(1, len(chains)) || o.N >= 4 && got > o.N/2 {
			t.Fatalf("%v: dimension %d, in %d chains", o, got, len(chains))
		}
	}
}

func TestG2AllRowsCanBeLeft(t *testing.T) {
	var met [][]int
	for row := range allRows(below(0, 0, 0)) {
		met = append(met, row)
		if len(met) == 4 {
			break
		}
	}
	if !slices.EqualFunc(met, [][]int{{0, 1, 2}, {0, 2, 1}, {1, 0, 2}, {1, 2, 0}}, slices.Equal) {
		t.Errorf("rows: %v", met)
	}
}

func TestA1CheckIsToldFirst(t *testing.T) {
	for _, w := range samples.WrongOrders() {
		if got, rows, err := Dimension(w.Order); err != w.Err || got != 0 || rows != nil {
			t.Errorf("Dimension(%v) = %d, %v, error %d, want error %d", w.Order, got, rows, err, w.Err)
		}
		if got, found, err := Turned(w.Order); err != w.Err || found || !isNothing(got) {
			t.Errorf("Turned(%v) = %v, %v, error %d, want error %d", w.Order, got, found, err, w.Err)
		}
	}
}

func TestP2P3OnlyReadAndTheSameEachTime(t *testing.T) {
	for _, o := range []api.Order{below(0, 1, 3), below(0, 0, 3, 2), crown()} {
		list, room := samples.Roomy(o.Below...)
		before := slices.Clone(room)
		o = below(list...)
		_, rows, _ := Dimension(o)
		want := make([][]int, len(rows))
		for i, row := range rows {
			want[i] = slices.Clone(row)
		}
		for i, row := range rows {
			if !slices.Equal(row, want[i]) {
				t.Errorf("row %d was %v, and is %v", i, want[i], row)
			}
			samples.Spoil(row)
		}
		if _, again, err := Dimension(o); err != api.OK || !slices.EqualFunc(again, want, slices.Equal) {
			t.Errorf("Dimension(%v): %v, and then %v, error %d", o, want, again, err)
		}
		turned, found, _ := Turned(o)
		first := slices.Clone(turned.Below)
		samples.Spoil(turned.Below)
		if again, foundAgain, _ := Turned(o); found != foundAgain || !slices.Equal(first, again.Below) {
			t.Errorf("Turned(%v): %v, and then %v", o, first, again.Below)
		}
		if !slices.Equal(room, before) {
			t.Errorf("what was handed in was changed: %v", room)
		}
	}
}

func TestP2OfOnlyReadsRows(t *testing.T) {
	first, firstRoom := samples.Roomy(1, 0, 3, 2)
	second, secondRoom := samples.Roomy(0, 1, 2, 3)
	before, secondBefore := slices.Clone(firstRoom), slices.Clone(secondRoom)
	rows := [][]int{first, second}
	got, _ := Of(4, rows)
	if !slices.Equal(got.Below, []int{0, 0, 3, 3}) || !slices.Equal(firstRoom, before) || !slices.Equal(secondRoom, secondBefore) {
		t.Errorf("Of(4, %v) = %v; %v, %v", rows, got, firstRoom, secondRoom)
	}
	slices.Reverse(first)
	if !slices.Equal(got.Below, []int{0, 0, 3, 3}) {
		t.Errorf("a later change is seen: %v", got)
	}
	samples.Spoil(got.Below)
	if !slices.Equal(second, []int{0, 1, 2, 3}) {
		t.Errorf("memory is shared: %v", second)
	}
}
