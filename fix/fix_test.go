package fix

import (
	"math"
	"math/bits"
	"reflect"
	"slices"
	"testing"

	"hasse/api"
	"hasse/order"
	"hasse/samples"
)

// below tells an order by its sets.
func below(sets ...int) api.Order { return samples.Below(sets...) }

// rising: a chain of n points, from 0 up.
func rising(n int) api.Order { return below(samples.Rising().Below[:n]...) }

// apart: n points that know nothing of one another.
func apart(n int) api.Order { return below(make([]int, n)...) }

// crown: n points below n others, each of them below all but the one of its own place.
func crown(n int) api.Order {
	sets := make([]int, 2*n)
	for i := range n {
		sets[n+i] = 1<<n - 1 - 1<<i
	}
	return below(sets...)
}

// isUpTo: a point is another one, or below it.
func isUpTo(o api.Order, lower, upper int) bool {
	return lower == upper || samples.IsBelow(o, lower, upper)
}

// plainMonotone by the words of chapter 13.
func plainMonotone(a, b api.Order, f []int) bool {
	for x := range a.N {
		for y := range a.N {
			if samples.IsBelow(a, x, y) && f[x] != f[y] && !samples.IsBelow(b, f[x], f[y]) {
				return false
			}
		}
	}
	return true
}

// plainMaps: all monotone ones.
func plainMaps(a, b api.Order) [][]int {
	var maps [][]int
	for _, f := range samples.Maps(a.N, b.N) {
		if plainMonotone(a, b, f) {
			maps = append(maps, f)
		}
	}
	return maps
}

// plainFixed: the set of the points that go to themselves.
func plainFixed(f []int) int {
	set := 0
	for point := range f {
		if f[point] == point {
			set += 1 << point
		}
	}
	return set
}

// few: all orders of up to three points.
func few() []api.Order {
	var orders []api.Order
	for n := range 4 {
		orders = append(orders, samples.Orders(n)...)
	}
	return orders
}

// great orders, of as many points as there may be among them.
func great() []api.Order {
	return append(samples.GreatOrders(200), samples.Apart(), samples.Rising(), samples.Falling(), samples.Storeys(), crown(5), crown(4), crown(3))
}

// monotoneMap from an order to itself, drawn: each point, those below it first, goes to one that those below it allow, or all to one.
func monotoneMap(o api.Order, draw *samples.Draw) []int {
	f := slices.Repeat([]int{-1}, o.N)
	for range o.N {
		for point := range o.N {
			if f[point] >= 0 || !allKnown(o, f, point) {
				continue
			}
			var may []int
			for image := range o.N {
				if allows(o, f, point, image) {
					may = append(may, image)
				}
			}
			if len(may) == 0 {
				return slices.Repeat([]int{draw.Next(o.N)}, o.N)
			}
			f[point] = may[draw.Next(len(may))]
		}
	}
	return f
}

// allKnown: each point below one has where it goes to.
func allKnown(o api.Order, f []int, point int) bool {
	for lower := range o.N {
		if samples.IsBelow(o, lower, point) && f[lower] < 0 {
			return false
		}
	}
	return true
}

// allows: of a point that goes to an image those below it go to what is below that, or to it.
func allows(o api.Order, f []int, point, image int) bool {
	for lower := range o.N {
		if samples.IsBelow(o, lower, point) && !isUpTo(o, f[lower], image) {
			return false
		}
	}
	return true
}

func TestM1Monotone(t *testing.T) {
	zig := below(0, 0, 3, 2)
	for _, c := range []struct {
		a, b api.Order
		f    []int
		want bool
	}{
		{below(), below(), nil, true},
		{below(), below(), []int{}, true},
		{below(), rising(3), nil, true},
		{below(0), below(0), []int{0}, true},
		{rising(2), rising(2), []int{0, 1}, true},
		{rising(2), rising(2), []int{1, 0}, false},
		{rising(2), rising(2), []int{1, 1}, true},
		{rising(2), apart(2), []int{0, 1}, false},
		{rising(2), apart(2), []int{1, 1}, true},
		{apart(2), rising(2), []int{1, 0}, true},
		{below(2, 0), rising(2), []int{0, 1}, false},
		{below(2, 0), rising(2), []int{1, 0}, true},
		// Numbers that only one of both has.
		{rising(2), rising(4), []int{2, 3}, true},
		{rising(2), rising(4), []int{3, 2}, false},
		{rising(4), rising(2), []int{0, 0, 1, 1}, true},
		{rising(4), rising(2), []int{0, 1, 0, 1}, false},
		// Only the second step goes down.
		{rising(3), rising(3), []int{0, 2, 1}, false},
		{rising(3), rising(3), []int{0, 2, 2}, true},
		{zig, zig, []int{0, 1, 2, 3}, true},
		{zig, zig, []int{1, 0, 2, 3}, false},
		{zig, zig, []int{1, 1, 2, 1}, true},
		{samples.Rising(), samples.Rising(), []int{9, 9, 9, 9, 9, 9, 9, 9, 9, 9}, true},
		{samples.Rising(), samples.Rising(), []int{9, 9, 9, 9, 9, 9, 9, 9, 9, 8}, false},
		{samples.Rising(), samples.Falling(), []int{9, 8, 7, 6, 5, 4, 3, 2, 1, 0}, true},
		{samples.Apart(), samples.Storeys(), []int{9, 8, 7, 6, 5, 4, 3, 2, 1, 0}, true},
	} {
		if got, err := Monotone(c.a, c.b, c.f); err != api.OK || got != c.want {
			t.Errorf("Monotone(%v, %v, %v) = %v, error %d", c.a, c.b, c.f, got, err)
		}
	}
}

func TestM1WrongMaps(t *testing.T) {
	for _, a := range []api.Order{below(), below(0), rising(3), samples.Apart(), samples.Storeys()} {
		for _, b := range []api.Order{below(), below(0), rising(3), samples.Falling()} {
			for _, w := range samples.WrongMaps(a.N, b.N) {
				if got, err := Monotone(a, b, w.Map); err != w.Err || got {
					t.Errorf("Monotone(%v, %v, %v) = %v, error %d, want error %d", a, b, w.Map, got, err, w.Err)
				}
			}
		}
		for _, w := range samples.WrongMaps(a.N, a.N) {
			if got, err := Fixed(a, w.Map); err != w.Err || got != 0 {
				t.Errorf("Fixed(%v, %v) = %d, error %d, want error %d", a, w.Map, got, err, w.Err)
			}
		}
	}
	// What is no point comes ahead of what is not monotone.
	if got, err := Fixed(rising(3), []int{2, 1, 3}); err != api.ErrRange || got != 0 {
		t.Errorf("Fixed = %d, error %d", got, err)
	}
	// A point of the first order that is none of the second, and the other way round.
	if _, err := Monotone(rising(3), rising(2), []int{0, 1, 2}); err != api.ErrRange {
		t.Errorf("Monotone of three to two: error %d", err)
	}
	if _, err := Monotone(rising(2), rising(3), []int{0, 1, 2}); err != api.ErrForm {
		t.Errorf("Monotone of two to three: error %d", err)
	}
}

// isAsked: Monotone and Fixed answer of a map what the words say.
func isAsked(t *testing.T, a, b api.Order, f []int) {
	t.Helper()
	monotone := plainMonotone(a, b, f)
	if got, err := Monotone(a, b, f); err != api.OK || got != monotone {
		t.Fatalf("Monotone(%v, %v, %v) = %v, error %d", a, b, f, got, err)
	}
	if !reflect.DeepEqual(a, b) {
		return
	}
	want, wantErr := plainFixed(f), api.OK
	if !monotone {
		want, wantErr = 0, api.ErrState
	}
	if got, err := Fixed(a, f); err != wantErr || got != want {
		t.Fatalf("Fixed(%v, %v) = %d, error %d, want %d, error %d", a, f, got, err, want, wantErr)
	}
}

func TestM1ByItsWords(t *testing.T) {
	for _, a := range few() {
		for _, b := range few() {
			for _, f := range samples.Maps(a.N, b.N) {
				isAsked(t, a, b, f)
			}
			if got, err := Count(a, b); err != api.OK || got != len(plainMaps(a, b)) {
				t.Fatalf("Count(%v, %v) = %d, error %d", a, b, got, err)
			}
		}
	}
	for _, o := range samples.Orders(4) {
		for _, f := range samples.Maps(4, 4) {
			isAsked(t, o, o, f)
		}
	}
}

func TestM1OfGreatOrders(t *testing.T) {
	draw := new(samples.Draw)
	orders := great()
	for i, o := range orders {
		itself := make([]int, o.N)
		for point := range itself {
			itself[point] = point
		}
		maps := [][]int{itself, slices.Repeat([]int{o.N - 1}, o.N)}
		for range 10 {
			maps = append(maps, monotoneMap(o, draw), samples.DrawnMap(o.N, o.N, draw))
			changed := monotoneMap(o, draw)
			changed[draw.Next(o.N)] = draw.Next(o.N)
			maps = append(maps, changed)
		}
		for _, f := range maps {
			isAsked(t, o, o, f)
		}
		other := orders[(i+1)%len(orders)]
		for range 10 {
			isAsked(t, o, other, samples.DrawnMap(o.N, other.N, draw))
		}
	}
}

// choose: how many sets of k there are of n.
func choose(n, k int) int {
	count := 1
	for i := range k {
		count = count * (n - i) / (i + 1)
	}
	return count
}

func TestM1Count(t *testing.T) {
	power := 1
	for n := range api.MaxMaps + 1 {
		for m := range api.MaxMaps + 1 {
			// Of a chain to a chain as many as there are ways to take n of m, one more than once, too.
			want := choose(n+m-1, n)
			if n == 0 {
				want = 1
			}
			if got, err := Count(rising(n), rising(m)); err != api.OK || got != want {
				t.Errorf("chains of %d and %d: %d, error %d, want %d", n, m, got, err, want)
			}
			// Of a chain to points apart all go to one.
			if n > 0 {
				want = m
			}
			if got, err := Count(rising(n), apart(m)); err != api.OK || got != want {
				t.Errorf("a chain of %d, %d apart: %d, error %d, want %d", n, m, got, err, want)
			}
			// Points apart go anywhere.
			power = 1
			for range n {
				power *= m
			}
			for _, to := range []api.Order{apart(m), rising(m)} {
				if got, err := Count(apart(n), to); err != api.OK || got != power {
					t.Errorf("%d apart, and %v: %d, error %d, want %d", n, to, got, err, power)
				}
			}
		}
	}
	if power != 3125 {
		t.Errorf("the most maps are %d", power)
	}
	if got, err := Count(rising(3), rising(3)); err != api.OK || got != 10 {
		t.Errorf("a chain of three to itself: %d, error %d", got, err)
	}
}

func TestM1CountOfManyOrders(t *testing.T) {
	for _, a := range samples.NaturalOrders(4) {
		for _, b := range samples.NaturalOrders(4) {
			if got, err := Count(a, b); err != api.OK || got != len(plainMaps(a, b)) {
				t.Fatalf("Count(%v, %v) = %d, error %d", a, b, got, err)
			}
		}
	}
	draw := new(samples.Draw)
	for _, o := range samples.NaturalOrders(5) {
		o = samples.Renumbered(o, draw)
		if got, err := Count(o, o); err != api.OK || got != len(plainMaps(o, o)) {
			t.Fatalf("Count(%v, %v) = %d, error %d", o, o, got, err)
		}
	}
}

func TestM1CountGoesWithWhatOrdersAreMadeOf(t *testing.T) {
	orders := append(few(), samples.NaturalOrders(4)...)
	two := rising(2)
	for _, a := range orders {
		// An ideal is what goes to the lower one of two.
		ideals, err := order.Ideals(a)
		if got, err2 := Count(a, two); err != api.OK || err2 != api.OK || got != len(ideals) {
			t.Fatalf("Count(%v, %v) = %d, error %d, but there are %d ideals", a, two, got, err2, len(ideals))
		}
		for i, b := range few() {
			target := orders[(i*7+a.N)%len(orders)]
			one, _ := Count(a, target)
			other, _ := Count(b, target)
			both, _ := order.Beside(a, b)
			if got, err := Count(both, target); both.N <= api.MaxMaps && (err != api.OK || got != one*other) {
				t.Fatalf("%v beside %v, to %v: %d, error %d, want %d times %d", a, b, target, got, err, one, other)
			}
			upper, _ := order.Dual(a)
			turned, _ := order.Dual(target)
			if got, err := Count(upper, turned); err != api.OK || got != one {
				t.Fatalf("Count(%v, %v) = %d, error %d, want %d", upper, turned, got, err, one)
			}
		}
	}
}

func TestM1M2TooMany(t *testing.T) {
	five, six := apart(5), apart(6)
	for _, pair := range [][2]api.Order{{six, five}, {five, six}, {six, six}, {six, below()}, {below(), six}, {rising(6), below(0)}, {samples.Rising(), samples.Rising()}} {
		if got, err := Count(pair[0], pair[1]); err != api.ErrMany || got != 0 {
			t.Errorf("Count(%v, %v) = %d, error %d", pair[0], pair[1], got, err)
		}
	}
	for _, o := range []api.Order{six, rising(6), crown(3), samples.Rising(), samples.Apart()} {
		if got, err := Always(o); err != api.ErrMany || got {
			t.Errorf("Always(%v) = %v, error %d", o, got, err)
		}
	}
	if got, err := Count(five, five); err != api.OK || got != 3125 {
		t.Errorf("Count of five: %d, error %d", got, err)
	}
	if got, err := Always(rising(5)); err != api.OK || !got {
		t.Errorf("Always of five: %v, error %d", got, err)
	}
}

func TestM2Always(t *testing.T) {
	for _, c := range []struct {
		o    api.Order
		want bool
	}{
		// The map of no points leaves none.
		{below(), false},
		{below(0), true},
		{apart(2), false},
		{rising(2), true},
		{below(2, 0), true},
		{rising(5), true},
		{apart(5), false},
		{below(0, 0, 3), true},
		{below(0, 0, 3, 2), true},
		{below(0, 1, 0, 4), false},
		// Two below two others: they can be turned round.
		{below(0, 0, 3, 3), false},
		{below(0, 0, 3, 3, 15), true},
		{below(0, 1, 1, 7, 7), true},
		{below(0, 1, 3, 0, 8), false},
	} {
		if got, err := Always(c.o); err != api.OK || got != c.want {
			t.Errorf("Always(%v) = %v, error %d", c.o, got, err)
		}
	}
}

// plainAlways by the words of M2.
func plainAlways(o api.Order) bool {
	for _, f := range plainMaps(o, o) {
		if plainFixed(f) == 0 {
			return false
		}
	}
	return true
}

// smallOnes: all orders of up to four points, and those of five, numbered any way.
func smallOnes() []api.Order {
	draw := new(samples.Draw)
	orders := samples.SmallOrders()
	for _, o := range samples.NaturalOrders(5) {
		orders = append(orders, o, samples.Renumbered(o, draw))
	}
	return orders
}

func TestM2AlwaysByItsWords(t *testing.T) {
	kinds := map[bool]int{}
	for _, o := range smallOnes() {
		want := plainAlways(o)
		kinds[want]++
		if got, err := Always(o); err != api.OK || got != want {
			t.Fatalf("Always(%v) = %v, error %d", o, got, err)
		}
	}
	if kinds[true] < 100 || kinds[false] < 100 {
		t.Errorf("orders that were tried: %v", kinds)
	}
}

func TestM2Core(t *testing.T) {
	for _, c := range []struct {
		o    api.Order
		want int
	}{
		{below(), 0},
		{below(0), 1},
		{apart(2), 3},
		{rising(2), 2},
		{below(2, 0), 2},
		{rising(3), 4},
		{samples.Rising(), 512},
		{samples.Falling(), 512},
		{samples.Apart(), 1023},
		{samples.Storeys(), 1023},
		{crown(3), 63},
		{crown(4), 255},
		{crown(5), 1023},
		// Pairs, one below the other: of each the greater number is left.
		{crown(2), 12},
		{below(0, 1, 0, 4), 10},
		// Two below one: only then it may go.
		{below(0, 0, 3), 4},
		{below(6, 0, 0), 4},
		{below(0, 1, 1), 4},
		// 0 covers two, and two cover it, till 1 is gone; then it is asked ahead of 3.
		{below(6, 0, 0, 7, 7), 16},
		// What was far is near, when what was between is gone.
		{below(2, 0, 3), 4},
		{below(0, 0, 3, 7, 7), 16},
		// Two below two others; one point more above one of those, or above both.
		{below(0, 0, 3, 3), 15},
		{below(0, 0, 3, 3, 7), 27},
		{below(0, 0, 3, 3, 15), 16},
	} {
		if got, err := Core(c.o); err != api.OK || got != c.want {
			t.Errorf("Core(%v) = %d, error %d, want %d", c.o, got, err, c.want)
		}
	}
}

// covers tells whether a point of some that are left covers another one of them.
func covers(o api.Order, left []int, upper, lower int) bool {
	if !samples.IsBelow(o, lower, upper) {
		return false
	}
	for _, between := range left {
		if samples.IsBelow(o, lower, between) && samples.IsBelow(o, between, upper) {
			return false
		}
	}
	return true
}

// leastToGo: the place of the least point of those left that may be taken away; -1: none may be.
func leastToGo(o api.Order, left []int) int {
	for place, point := range left {
		lower, upper := 0, 0
		for _, other := range left {
			if covers(o, left, point, other) {
				lower++
			}
			if covers(o, left, other, point) {
				upper++
			}
		}
		if lower == 1 || upper == 1 {
			return place
		}
	}
	return -1
}

// plainCore by the words of M2.
func plainCore(o api.Order) int {
	left := make([]int, o.N)
	for point := range left {
		left[point] = point
	}
	for place := leastToGo(o, left); place >= 0; place = leastToGo(o, left) {
		left = slices.Delete(left, place, place+1)
	}
	set := 0
	for _, point := range left {
		set += 1 << point
	}
	return set
}

func TestM2CoreByItsWords(t *testing.T) {
	sizes := map[int]int{}
	for _, o := range append(smallOnes(), great()...) {
		want := plainCore(o)
		sizes[bits.OnesCount(uint(want))]++
		if got, err := Core(o); err != api.OK || got != want {
			t.Fatalf("Core(%v) = %d, error %d, want %d", o, got, err, want)
		}
	}
	if len(sizes) < 8 {
		t.Errorf("what was left had sizes %v", sizes)
	}
}

func TestM4IfOnePointIsLeftEachMapLeavesOne(t *testing.T) {
	for _, o := range smallOnes() {
		left, err1 := Core(o)
		always, err2 := Always(o)
		// Of so few points it is so the other way round, too.
		if err1 != api.OK || err2 != api.OK || always != (bits.OnesCount(uint(left)) == 1) {
			t.Fatalf("%v: %d is left, always %v", o, left, always)
		}
	}
	draw := new(samples.Draw)
	ones := 0
	for _, o := range great() {
		left, _ := Core(o)
		if bits.OnesCount(uint(left)) != 1 {
			continue
		}
		ones++
		for range 50 {
			f := monotoneMap(o, draw)
			if set, err := Fixed(o, f); err != api.OK || set == 0 {
				t.Fatalf("Fixed(%v, %v) = %d, error %d, but only %d is left", o, f, set, err, left)
			}
		}
	}
	if ones < 20 {
		t.Errorf("only of %d great orders one point is left", ones)
	}
}

// goesUpToFixed: what goes to itself, or up, has a point that goes to itself at it or above it.
func goesUpToFixed(t *testing.T, o api.Order, f []int) {
	t.Helper()
	set, err := Fixed(o, f)
	if err != api.OK {
		t.Fatalf("Fixed(%v, %v): error %d", o, f, err)
	}
	for point := range o.N {
		found := !isUpTo(o, point, f[point])
		for upper := range o.N {
			found = found || isUpTo(o, point, upper) && set>>upper&1 == 1
		}
		if !found {
			t.Fatalf("Fixed(%v, %v) = %d, but %d goes up to %d", o, f, set, point, f[point])
		}
	}
}

func TestM4WhatGoesUpComesToWhatIsLeft(t *testing.T) {
	for _, o := range smallOnes() {
		for _, f := range plainMaps(o, o) {
			goesUpToFixed(t, o, f)
		}
	}
	draw := new(samples.Draw)
	for _, o := range great() {
		for range 20 {
			goesUpToFixed(t, o, monotoneMap(o, draw))
		}
	}
}

func TestA1CheckIsToldFirst(t *testing.T) {
	lists := [][]int{nil, {0}, {1, 0}, {0, 0, 0}, {-1, math.MaxInt}, {0, 5}}
	rights := []api.Order{below(), apart(2), samples.Rising()}
	for _, w := range samples.WrongOrders() {
		for _, f := range lists {
			for _, right := range rights {
				if got, err := Monotone(w.Order, right, f); err != w.Err || got {
					t.Errorf("Monotone(%v, %v, %v) = %v, error %d, want error %d", w.Order, right, f, got, err, w.Err)
				}
				if got, err := Monotone(right, w.Order, f); err != w.Err || got {
					t.Errorf("Monotone(%v, %v, %v) = %v, error %d, want error %d", right, w.Order, f, got, err, w.Err)
				}
			}
			if got, err := Fixed(w.Order, f); err != w.Err || got != 0 {
				t.Errorf("Fixed(%v, %v) = %d, error %d, want error %d", w.Order, f, got, err, w.Err)
			}
		}
		for _, right := range rights {
			if got, err := Count(w.Order, right); err != w.Err || got != 0 {
				t.Errorf("Count(%v, %v) = %d, error %d, want error %d", w.Order, right, got, err, w.Err)
			}
			if got, err := Count(right, w.Order); err != w.Err || got != 0 {
				t.Errorf("Count(%v, %v) = %d, error %d, want error %d", right, w.Order, got, err, w.Err)
			}
		}
		if got, err := Always(w.Order); err != w.Err || got {
			t.Errorf("Always(%v) = %v, error %d, want error %d", w.Order, got, err, w.Err)
		}
		if got, err := Core(w.Order); err != w.Err || got != 0 {
			t.Errorf("Core(%v) = %d, error %d, want error %d", w.Order, got, err, w.Err)
		}
	}
}

func TestA1OfTwoWrongOrdersTheFirstIsTold(t *testing.T) {
	for _, a := range samples.WrongOrders() {
		for _, b := range samples.WrongOrders() {
			if got, err := Monotone(a.Order, b.Order, []int{7}); err != a.Err || got {
				t.Errorf("Monotone(%v, %v) = %v, error %d, want error %d", a.Order, b.Order, got, err, a.Err)
			}
			if got, err := Count(a.Order, b.Order); err != a.Err || got != 0 {
				t.Errorf("Count(%v, %v) = %d, error %d, want error %d", a.Order, b.Order, got, err, a.Err)
			}
		}
	}
}

func TestP2P3OrdersAndMapsAreOnlyReadAndTheSameEachTime(t *testing.T) {
	draw := new(samples.Draw)
	for _, o := range []api.Order{below(), below(0), rising(4), below(0, 0, 3, 3), below(6, 0, 0, 7, 7), crown(5)} {
		list, room := samples.Roomy(o.Below...)
		roomy := api.Order{N: o.N, Below: list}
		before := slices.Clone(room)
		f := []int{}
		if o.N > 0 {
			f = monotoneMap(o, draw)
		}
		m, mapRoom := samples.Roomy(f...)
		mapBefore := slices.Clone(mapRoom)
		core := plainCore(o)
		for range 2 {
			isAsked(t, roomy, roomy, m)
			if got, _ := Core(roomy); got != core {
				t.Errorf("Core(%v) = %d, want %d", o, got, core)
			}
			if o.N <= api.MaxMaps {
				if got, _ := Count(roomy, roomy); got != len(plainMaps(o, o)) {
					t.Errorf("Count(%v) = %d", o, got)
				}
				if got, _ := Always(roomy); got != plainAlways(o) {
					t.Errorf("Always(%v) = %v", o, got)
				}
			}
		}
		if !slices.Equal(room, before) || !slices.Equal(mapRoom, mapBefore) {
			t.Errorf("%v or %v was changed: %v, %v", o, f, room, mapRoom)
		}
	}
}

func TestAllMonotoneStopsWhenItIsToldTo(t *testing.T) {
	for _, o := range few() {
		all := plainMaps(o, o)
		for most := range len(all) {
			var met [][]int
			for f := range allMonotone(o, o) {
				met = append(met, slices.Clone(f))
				if len(met) > most {
					break
				}
			}
			if !reflect.DeepEqual(met, all[:most+1]) {
				t.Fatalf("the first %d maps of %v are %v, want %v", most+1, o, met, all[:most+1])
			}
		}
	}
}
