package moebius

import (
	"math"
	"reflect"
	"slices"
	"testing"

	"hasse/api"
	"hasse/fix"
	"hasse/lattice"
	"hasse/order"
	"hasse/samples"
)

// orders of all sizes.
func orders() []api.Order {
	draw := new(samples.Draw)
	named := []api.Order{samples.Apart(), samples.Rising(), samples.Falling(), samples.Storeys(), crown(5)}
	for range 5 {
		named = append(named, samples.Renumbered(threes(), draw), samples.Renumbered(samples.Below(0, 1, 1, 1, 1, 1, 1, 1, 1, 511), draw))
	}
	return slices.Concat(named, samples.SmallOrders(), samples.GreatOrders(150))
}

// threes: two storeys of three points between a least and a greatest one.
func threes() api.Order { return samples.Below(0, 1, 1, 1, 15, 15, 15, 127) }

// crown of k points below and k above, of which each is above all but its own.
func crown(k int) api.Order {
	o := samples.Below(make([]int, 2*k)...)
	for i := range k {
		o.Below[k+i] = (1<<k - 1) &^ (1 << i)
	}
	return o
}

// allSets of k points: all of them, as an order.
func allSets(k int) api.Order {
	o := samples.Below(make([]int, 1<<k)...)
	for upper := range o.Below {
		for lower := range o.Below {
			if lower != upper && lower&^upper == 0 {
				o.Below[upper] |= 1 << lower
			}
		}
	}
	return o
}

// plainMu by the words of T1, all of it anew each time.
func plainMu(o api.Order, a, b int) int {
	if a == b {
		return 1
	}
	if !samples.IsBelow(o, a, b) {
		return 0
	}
	rest := 0
	for c := range o.N {
		if c == a || samples.IsBelow(o, a, c) && samples.IsBelow(o, c, b) {
			rest += plainMu(o, a, c)
		}
	}
	return -rest
}

// plainSums by the words of T2.
func plainSums(o api.Order, f []int) []int {
	var sums []int
	for point := range o.N {
		sum := f[point]
		for lower := range o.N {
			if samples.IsBelow(o, lower, point) {
				sum += f[lower]
			}
		}
		sums = append(sums, sum)
	}
	return sums
}

// plainEuler by the words of T3: each set of points is looked at.
func plainEuler(o api.Order) int {
	euler := 0
	for set := range 1 << o.N {
		odd, chain := false, true
		for x := range o.N {
			if set>>x&1 == 0 {
				continue
			}
			odd = !odd
			for y := range x {
				chain = chain && (set>>y&1 == 0 || samples.IsBelow(o, x, y) || samples.IsBelow(o, y, x))
			}
		}
		if chain && odd {
			euler++
		} else if chain {
			euler--
		}
	}
	return euler
}

// muOf a right order's points.
func muOf(t *testing.T, o api.Order, a, b int) int {
	t.Helper()
	got, err := Mu(o, a, b)
	if err != api.OK {
		t.Fatalf("Mu(%v, %d, %d): error %d", o, a, b, err)
	}
	return got
}

// ofOf a right lattice's elements.
func ofOf(t *testing.T, l api.Lattice, x, y int) int {
	t.Helper()
	got, err := Of(l, x, y)
	if err != api.OK {
		t.Fatalf("Of(%v, %d, %d): error %d", l, x, y, err)
	}
	return got
}

// eulerOf a right order.
func eulerOf(t *testing.T, o api.Order) int {
	t.Helper()
	got, err := Euler(o)
	if err != api.OK {
		t.Fatalf("Euler(%v): error %d", o, err)
	}
	return got
}

// partOf an order: the points of a set.
func partOf(t *testing.T, o api.Order, set int) api.Order {
	t.Helper()
	part, err := order.Part(o, set)
	if err != api.OK {
		t.Fatalf("Part(%v, %d): error %d", o, set, err)
	}
	return part
}

func TestT1Mu(t *testing.T) {
	square := samples.Below(0, 1, 1, 7)
	for _, c := range []struct {
		name string
		o    api.Order
		a, b int
		want int
	}{
		{"one point", samples.Below(0), 0, 0, 1},
		{"a point and itself", samples.Rising(), 4, 4, 1},
		{"a point and one that covers it", samples.Below(0, 1), 0, 1, -1},
		{"the other way round", samples.Below(0, 1), 1, 0, 0},
		{"two that know nothing of one another", samples.Below(0, 0), 0, 1, 0},
		{"two steps in a chain", samples.Below(0, 1, 3), 0, 2, 0},
		{"ten in a chain", samples.Rising(), 0, 9, 0},
		{"ten in a chain, turned over", samples.Falling(), 9, 0, 0},
		{"a square", square, 0, 3, 1},
		{"a side of a square", square, 0, 2, -1},
		{"the upper side", square, 2, 3, -1},
		{"three between", samples.Below(0, 1, 1, 1, 15), 0, 4, 2},
		{"eight between", samples.Below(0, 1, 1, 1, 1, 1, 1, 1, 1, 511), 0, 9, 7},
		{"two of which one is higher", samples.Below(0, 1, 3, 1, 15), 0, 4, 1},
		{"all sets of three points", allSets(3), 0, 7, -1},
		{"a set, and one of two points more", allSets(3), 1, 7, 1},
		{"two chains of two between", samples.Below(0, 1, 1, 3, 5, 31), 0, 5, 1},
		{"two storeys of three between", threes(), 0, 7, -4},
		{"a storey between", samples.Storeys(), 0, 4, 1},
		{"two storeys between", samples.Storeys(), 0, 6, -1},
		{"three storeys between", samples.Storeys(), 0, 8, 1},
	} {
		if got, err := Mu(c.o, c.a, c.b); err != api.OK || got != c.want {
			t.Errorf("%s: %d, error %d, want %d", c.name, got, err, c.want)
		}
	}
}

func TestT1MuByItsWords(t *testing.T) {
	kinds := map[int]int{}
	for _, o := range orders() {
		for a := range o.N {
			for b := range o.N {
				got, want := muOf(t, o, a, b), plainMu(o, a, b)
				if got != want {
					t.Fatalf("Mu(%v, %d, %d) = %d, want %d", o, a, b, got, want)
				}
				kinds[max(-2, min(got, 2))]++
			}
		}
	}
	if kinds[-2] < 5 || kinds[-1] < 1000 || kinds[0] < 1000 || kinds[1] < 1000 || kinds[2] < 5 {
		t.Errorf("of each kind: %v", kinds)
	}
}

func TestT1Of(t *testing.T) {
	two := samples.ChainLattice(2)
	cube := samples.TimesLattice(samples.TimesLattice(two, two), two)
	for _, c := range []struct {
		name string
		l    api.Lattice
		x, y int
		want int
	}{
		{"one element", samples.ChainLattice(1), 0, 0, 1},
		{"two elements", two, 0, 1, -1},
		{"the other way round", two, 1, 0, 0},
		{"turned over", api.Lattice{N: 2, Meet: two.Join, Join: two.Meet}, 1, 0, -1},
		{"two in the middle", samples.StarLattice(4), 1, 2, 0},
		{"a square", samples.StarLattice(4), 0, 3, 1},
		{"a diamond", samples.StarLattice(5), 0, 4, 2},
		{"the greatest star", samples.StarLattice(40), 0, 39, 37},
		{"the greatest chain", samples.ChainLattice(40), 0, 39, 0},
		{"two in it", samples.ChainLattice(40), 38, 39, -1},
		{"a cube", cube, 0, 7, -1},
		{"all sets of five points", samples.TimesLattice(samples.StarLattice(4), cube), 0, 31, -1},
		{"pairs of stars", samples.TimesLattice(samples.StarLattice(5), samples.StarLattice(8)), 0, 39, 10},
	} {
		if got, err := Of(c.l, c.x, c.y); err != api.OK || got != c.want {
			t.Errorf("%s: %d, error %d, want %d", c.name, got, err, c.want)
		}
	}
}

// isUpTo: x is y or below it, told by Join, where the program goes by Meet.
func isUpTo(l api.Lattice, x, y int) bool { return l.Join[x][y] == y }

func TestT1OfByItsWords(t *testing.T) {
	tried := 0
	for _, l := range append(samples.SmallLattices(), samples.GreatLattices(40)...) {
		for x := 0; x < l.N; x += 1 + l.N/8 {
			mus := make([]int, l.N)
			for y := range l.N {
				mus[y] = ofOf(t, l, x, y)
			}
			for y := range l.N {
				sum := 0
				for z := range l.N {
					if isUpTo(l, x, z) && isUpTo(l, z, y) {
						sum += mus[z]
					}
				}
				if x == y && mus[y] != 1 || x != y && sum != 0 || !isUpTo(l, x, y) && mus[y] != 0 {
					t.Fatalf("Of(%v, %d, %d) = %d, with what is between %d", l, x, y, mus[y], sum)
				}
				if mus[y] != 0 {
					tried++
				}
			}
		}
	}
	if tried < 5000 {
		t.Errorf("only %d were other than 0", tried)
	}
}

func TestT1OfIsMuOfTheOrder(t *testing.T) {
	for _, l := range samples.SmallLattices() {
		o, err := lattice.Order(l)
		if err != api.OK {
			t.Fatalf("Order(%v): error %d", l, err)
		}
		for x := range l.N {
			for y := range l.N {
				if got, want := ofOf(t, l, x, y), muOf(t, o, x, y); got != want {
					t.Fatalf("Of(%v, %d, %d) = %d, but Mu of its order is %d", l, x, y, got, want)
				}
			}
		}
	}
}

func TestT1WhatIsNoPoint(t *testing.T) {
	for _, n := range []int{0, 1, 2, 10} {
		o := samples.Below(samples.Rising().Below[:n]...)
		for _, wrong := range []int{-1, n, n + 1, math.MinInt, math.MaxInt} {
			for _, other := range []int{0, n - 1, wrong} {
				for _, p := range [2][2]int{{wrong, other}, {other, wrong}} {
					if got, err := Mu(o, p[0], p[1]); err != api.ErrRange || got != 0 {
						t.Errorf("Mu of %d points, %v = %d, error %d", n, p, got, err)
					}
				}
			}
		}
	}
	for _, n := range []int{1, 2, 40} {
		for _, wrong := range []int{-1, n, n + 1, math.MinInt, math.MaxInt} {
			for _, p := range [3][2]int{{wrong, 0}, {0, wrong}, {wrong, wrong}} {
				if got, err := Of(samples.ChainLattice(n), p[0], p[1]); err != api.ErrRange || got != 0 {
					t.Errorf("Of of %d elements, %v = %d, error %d", n, p, got, err)
				}
			}
		}
	}
}

func TestT2SumsAndUndo(t *testing.T) {
	most := api.MaxSum
	for _, c := range []struct {
		name    string
		o       api.Order
		f, sums []int
	}{
		{"no points", samples.Below(), nil, []int{}},
		{"no points, and a list without numbers", samples.Below(), []int{}, []int{}},
		{"one point", samples.Below(0), []int{7}, []int{7}},
		{"two apart", samples.Below(0, 0), []int{3, -1}, []int{3, -1}},
		{"two in a chain", samples.Below(0, 1), []int{3, -1}, []int{3, 2}},
		{"the other way round", samples.Below(2, 0), []int{3, -1}, []int{2, -1}},
		{"ten in a chain", samples.Rising(), []int{1, 1, 1, 1, 1, 1, 1, 1, 1, 1}, []int{1, 2, 3, 4, 5, 6, 7, 8, 9, 10}},
		{"a square", samples.Below(0, 1, 1, 7), []int{1, 10, 100, 1000}, []int{1, 11, 101, 1111}},
		{"far below by two ways", samples.Below(0, 1, 1, 7, 15), []int{5, 0, 0, 0, 0}, []int{5, 5, 5, 5, 5}},
		{"as great as may be", samples.Below(0, 1), []int{most, -most}, []int{most, 0}},
		{"as small as may be", samples.Below(0, 0, 3), []int{-most, most, -most}, []int{-most, most, -most}},
	} {
		if got, err := Sums(c.o, c.f); err != api.OK || !slices.Equal(got, c.sums) {
			t.Errorf("%s: Sums is %v, error %d, want %v", c.name, got, err, c.sums)
		}
		if got, err := Undo(c.o, c.sums); err != api.OK || !slices.Equal(got, c.f) {
			t.Errorf("%s: Undo is %v, error %d, want %v", c.name, got, err, c.f)
		}
	}
}

func TestT2WhatComesOutMayBeGreater(t *testing.T) {
	most := api.MaxSum
	all := slices.Repeat([]int{most}, 10)
	if got, err := Sums(samples.Rising(), all); err != api.OK || got[9] != 10*most {
		t.Errorf("Sums: %v, error %d", got, err)
	}
	for i := range all {
		all[i] = most * (1 - 2*(i%2))
	}
	if got, err := Undo(samples.Rising(), all); err != api.OK || got[9] != -2*most || got[0] != most {
		t.Errorf("Undo: %v, error %d", got, err)
	}
	// Nine below one: all that they have is taken from it.
	broad := samples.Below(0, 0, 0, 0, 0, 0, 0, 0, 0, 511)
	if got, err := Undo(broad, append(slices.Repeat([]int{-most}, 9), most)); err != api.OK || got[9] != 10*most {
		t.Errorf("Undo: %v, error %d", got, err)
	}
}

// numbers drawn for n points, small ones and the greatest ones.
func numbers(n int, draw *samples.Draw) []int {
	list := make([]int, n)
	for i := range list {
		list[i] = draw.Next(19) - 9
		if draw.Next(4) == 0 {
			list[i] = draw.Next(2*api.MaxSum+1) - api.MaxSum
		}
	}
	return list
}

func TestT2ByItsWords(t *testing.T) {
	draw := new(samples.Draw)
	for _, o := range orders() {
		for range 3 {
			list := numbers(o.N, draw)
			if got, err := Sums(o, list); err != api.OK || !slices.Equal(got, plainSums(o, list)) {
				t.Fatalf("Sums(%v, %v) = %v, error %d, want %v", o, list, got, err, plainSums(o, list))
			}
			if got, err := Undo(o, list); err != api.OK || !slices.Equal(plainSums(o, got), list) {
				t.Fatalf("Undo(%v, %v) = %v, error %d, of which the sums are others", o, list, got, err)
			}
		}
	}
}

// isRefused: both calls tell the error, and nothing else.
func isRefused(t *testing.T, o api.Order, list []int, want api.Errno) {
	t.Helper()
	if got, err := Sums(o, list); err != want || got != nil {
		t.Errorf("Sums(%v, %v) = %v, error %d, want error %d", o, list, got, err, want)
	}
	if got, err := Undo(o, list); err != want || got != nil {
		t.Errorf("Undo(%v, %v) = %v, error %d, want error %d", o, list, got, err, want)
	}
}

func TestT2WrongNumbers(t *testing.T) {
	for _, n := range []int{0, 1, 3, 10} {
		o := samples.Below(samples.Rising().Below[:n]...)
		for _, size := range []int{0, n - 1, n + 1, 2*n + 3} {
			if size >= 0 && size != n {
				isRefused(t, o, make([]int, size), api.ErrForm)
				isRefused(t, o, slices.Repeat([]int{api.MaxSum + 1}, size), api.ErrForm)
			}
		}
		for place := range n {
			for _, wrong := range []int{api.MaxSum + 1, -api.MaxSum - 1, math.MaxInt, math.MinInt} {
				list := make([]int, n)
				list[place] = wrong
				isRefused(t, o, list, api.ErrRange)
			}
			for _, right := range []int{api.MaxSum, -api.MaxSum} {
				list := make([]int, n)
				list[place] = right
				_, err1 := Sums(o, list)
				_, err2 := Undo(o, list)
				if err1 != api.OK || err2 != api.OK {
					t.Errorf("%v: errors %d and %d", list, err1, err2)
				}
			}
		}
	}
}

func TestT3Euler(t *testing.T) {
	for _, c := range []struct {
		name string
		o    api.Order
		want int
	}{
		{"no points", samples.Below(), -1},
		{"one point", samples.Below(0), 0},
		{"two apart", samples.Below(0, 0), 1},
		{"ten apart", samples.Apart(), 9},
		{"two in a chain", samples.Below(0, 1), 0},
		{"ten in a chain", samples.Rising(), 0},
		{"a chain beside a point", samples.Below(0, 1, 0), 1},
		{"a fork", samples.Below(0, 1, 1), 0},
		{"a crown of two", samples.Below(0, 0, 3, 3), -1},
		{"a crown of three", crown(3), -1},
		{"a crown of five", crown(5), -11},
		{"storeys of two: a ball's hull, of each storey one more", samples.Storeys(), 1},
		{"four storeys", samples.Below(0, 0, 3, 3, 15, 15, 63, 63), -1},
		{"three storeys of three", samples.Below(0, 0, 0, 7, 7, 7, 63, 63, 63), 8},
	} {
		if got, err := Euler(c.o); err != api.OK || got != c.want {
			t.Errorf("%s: %d, error %d, want %d", c.name, got, err, c.want)
		}
	}
}

func TestT3ByItsWords(t *testing.T) {
	kinds := map[int]int{}
	for _, o := range orders() {
		got := eulerOf(t, o)
		if want := plainEuler(o); got != want {
			t.Fatalf("Euler(%v) = %d, want %d", o, got, want)
		}
		kinds[max(-2, min(got, 2))]++
	}
	if len(kinds) < 5 {
		t.Errorf("of each kind: %v", kinds)
	}
}

func TestT4UndoIsTheSumOfMuTimesG(t *testing.T) {
	draw := new(samples.Draw)
	for _, o := range orders() {
		g := numbers(o.N, draw)
		want := make([]int, o.N)
		for b := range o.N {
			for a := range o.N {
				want[b] += g[a] * muOf(t, o, a, b)
			}
		}
		if got, err := Undo(o, g); err != api.OK || !slices.Equal(got, want) {
			t.Fatalf("Undo(%v, %v) = %v, error %d, want %v", o, g, got, err, want)
		}
	}
}

func TestT4SumsAndUndoLeadBack(t *testing.T) {
	draw := new(samples.Draw)
	for _, o := range orders() {
		f := samples.DrawnMap(o.N, 1000, draw)
		sums, err1 := Sums(o, f)
		back, err2 := Undo(o, sums)
		if err1 != api.OK || err2 != api.OK || !slices.Equal(back, f) {
			t.Fatalf("%v, %v: sums %v, error %d, back %v, error %d", o, f, sums, err1, back, err2)
		}
	}
}

func TestT4MuIsEulerOfWhatIsBetween(t *testing.T) {
	tried := 0
	for _, o := range orders() {
		dual, err := order.Dual(o)
		if err != api.OK {
			t.Fatalf("Dual(%v): error %d", o, err)
		}
		for a := range o.N {
			for b := range o.N {
				if !samples.IsBelow(o, a, b) {
					continue
				}
				between := partOf(t, o, dual.Below[a]&o.Below[b])
				if got, want := muOf(t, o, a, b), eulerOf(t, between); got != want {
					t.Fatalf("Mu(%v, %d, %d) = %d, but Euler of what is between is %d", o, a, b, got, want)
				}
				if got := muOf(t, dual, b, a); got != muOf(t, o, a, b) {
					t.Fatalf("Mu(%v, %d, %d) turned over is %d", o, a, b, got)
				}
				tried++
			}
		}
	}
	if tried < 2000 {
		t.Errorf("only %d pairs were tried", tried)
	}
}

func TestT4OfPairsItIsTheProduct(t *testing.T) {
	tried := 0
	for _, a := range samples.SmallOrders() {
		for _, b := range []api.Order{samples.Below(0), samples.Below(0, 1), samples.Below(0, 0), samples.Below(6, 0, 2), samples.Below(0, 1, 1), samples.Below(14, 8, 8, 0), samples.Below(0, 1, 1, 1, 15)} {
			if a.N*b.N > api.MaxPoints {
				continue
			}
			both, err := order.Times(a, b)
			if err != api.OK {
				t.Fatalf("Times(%v, %v): error %d", a, b, err)
			}
			for p := range both.N {
				for q := range both.N {
					want := muOf(t, a, p/b.N, q/b.N) * muOf(t, b, p%b.N, q%b.N)
					if got := muOf(t, both, p, q); got != want {
						t.Fatalf("Mu(%v, %d, %d) = %d, want %d", both, p, q, got, want)
					}
				}
			}
			tried++
		}
	}
	if tried < 300 {
		t.Errorf("only %d products were tried", tried)
	}
	// Of lattices, too.
	a, b := samples.StarLattice(6), samples.TimesLattice(samples.ChainLattice(2), samples.ChainLattice(3))
	both := samples.TimesLattice(a, b)
	for p := range both.N {
		for q := range both.N {
			want := ofOf(t, a, p/b.N, q/b.N) * ofOf(t, b, p%b.N, q%b.N)
			if got := ofOf(t, both, p, q); got != want {
				t.Fatalf("Of(%v, %d, %d) = %d, want %d", both, p, q, got, want)
			}
		}
	}
}

func TestT4Weisner(t *testing.T) {
	tried := 0
	for _, l := range append(samples.SmallLattices(), samples.GreatLattices(60)...) {
		least, greatest := 0, 0
		for x := range l.N {
			least, greatest = l.Meet[least][x], l.Join[greatest][x]
		}
		mus := make([]int, l.N)
		for x := range l.N {
			mus[x] = ofOf(t, l, least, x)
		}
		for a := range l.N {
			sum := 0
			for x := range l.N {
				if l.Join[x][a] == greatest {
					sum += mus[x]
				}
			}
			if a != least && sum != 0 {
				t.Fatalf("%v: with %d they make %d", l, a, sum)
			}
			tried++
		}
	}
	if tried < 3000 {
		t.Errorf("only %d elements were tried", tried)
	}
}

func TestWhatIsLeftOfAnOrderHasItsEuler(t *testing.T) {
	less := 0
	for _, o := range orders() {
		left, err := fix.Core(o)
		if err != api.OK {
			t.Fatalf("Core(%v): error %d", o, err)
		}
		if got, want := eulerOf(t, partOf(t, o, left)), eulerOf(t, o); got != want {
			t.Fatalf("%v: Euler is %d, of what is left, %d, it is %d", o, want, left, got)
		}
		if left != 1<<o.N-1 {
			less++
		}
	}
	if less < 200 {
		t.Errorf("only of %d orders less was left", less)
	}
}

func TestA1J1CheckIsToldFirst(t *testing.T) {
	for _, w := range samples.WrongOrders() {
		for _, list := range [][]int{nil, {0}, {0, 0}, {math.MaxInt, 0}, {0, 0, 0}} {
			isRefused(t, w.Order, list, w.Err)
		}
		for _, p := range [][2]int{{0, 0}, {0, 1}, {-1, 0}, {0, 99}} {
			if got, err := Mu(w.Order, p[0], p[1]); err != w.Err || got != 0 {
				t.Errorf("Mu(%v, %v) = %d, error %d, want error %d", w.Order, p, got, err, w.Err)
			}
		}
		if got, err := Euler(w.Order); err != w.Err || got != 0 {
			t.Errorf("Euler(%v) = %d, error %d, want error %d", w.Order, got, err, w.Err)
		}
	}
	for _, w := range samples.WrongLattices() {
		for _, p := range [][2]int{{0, 0}, {0, 1}, {-1, 0}, {0, 99}} {
			if got, err := Of(w.Lattice, p[0], p[1]); err != w.Err || got != 0 {
				t.Errorf("Of(%v, %v) = %d, error %d, want error %d", w.Lattice, p, got, err, w.Err)
			}
		}
	}
}

func TestP2P3OrdersAreOnlyReadAndTheSameEachTime(t *testing.T) {
	draw := new(samples.Draw)
	for _, one := range []api.Order{samples.Below(), samples.Below(0), samples.Rising(), samples.Storeys(), crown(4)} {
		below, room1 := samples.Roomy(one.Below...)
		list, room2 := samples.Roomy(numbers(one.N, draw)...)
		o := api.Order{N: one.N, Below: below}
		rooms := [][]int{slices.Clone(room1), slices.Clone(room2)}
		for range 2 {
			sums, _ := Sums(o, list)
			undone, _ := Undo(o, list)
			if !slices.Equal(sums, plainSums(one, list)) || !slices.Equal(plainSums(one, undone), list) || eulerOf(t, o) != plainEuler(one) {
				t.Fatalf("%v: sums %v, undone %v", o, sums, undone)
			}
			for a := range o.N {
				if got := muOf(t, o, a, o.N-1); got != plainMu(one, a, o.N-1) {
					t.Fatalf("Mu(%v, %d, %d) = %d", o, a, o.N-1, got)
				}
			}
			if samples.Shared(sums, undone, below, list) {
				t.Fatalf("Sums and Undo of %v share memory", o)
			}
			samples.Spoil(sums)
			samples.Spoil(undone)
			if !reflect.DeepEqual(rooms, [][]int{room1, room2}) {
				t.Fatalf("%v or %v was changed", one, list)
			}
		}
	}
}

func TestP2P3LatticesAreOnlyReadAndTheSameEachTime(t *testing.T) {
	for _, one := range []api.Lattice{samples.ChainLattice(1), samples.StarLattice(40), samples.TimesLattice(samples.StarLattice(5), samples.ChainLattice(8))} {
		l, rooms := samples.RoomyLattice(one)
		before := make([][]int, len(rooms))
		for i, room := range rooms {
			before[i] = slices.Clone(room)
		}
		for x := range l.N {
			if first, again := ofOf(t, l, 0, x), ofOf(t, one, 0, x); first != again {
				t.Fatalf("Of(%v, 0, %d) is %d and %d", one, x, first, again)
			}
		}
		if !reflect.DeepEqual(rooms, before) || !samples.HasRoom(l) {
			t.Fatalf("%v was changed", one)
		}
	}
}
