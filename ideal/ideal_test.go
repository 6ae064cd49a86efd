package ideal

import (
	"math"
	"reflect"
	"slices"
	"testing"

	"hasse/api"
	"hasse/lattice"
	"hasse/order"
	"hasse/samples"
)

// below tells an order by its sets.
func below(sets ...int) api.Order { return samples.Below(sets...) }

// edge: chains of one, three and four points side by side, so that there are as many ideals as a lattice may have.
func edge() api.Order { return below(0, 0, 2, 6, 0, 16, 48, 112) }

// beyond: the same above one point more, so that there is one ideal more.
func beyond() api.Order { return below(0, 1, 1, 5, 13, 1, 33, 97, 225) }

// triedOrders: small ones, all of them, and great ones.
func triedOrders() []api.Order {
	orders := append(samples.SmallOrders(), samples.NaturalOrders(5)...)
	orders = append(orders, samples.GreatOrders(300)...)
	return append(orders, samples.Apart(), samples.Rising(), samples.Falling(), samples.Storeys(), edge(), beyond())
}

// tried lattices: small ones, all of them, and great ones of many kinds.
func tried() []api.Lattice { return append(samples.SmallLattices(), samples.GreatLattices(150)...) }

// plainIdeals by the words of A4: sets that have with a point all that is below it.
func plainIdeals(o api.Order) []int {
	var ideals []int
	for set := range 1 << o.N {
		is := true
		for upper := range o.N {
			for lower := range o.N {
				if samples.IsBelow(o, lower, upper) && set>>upper&1 == 1 && set>>lower&1 == 0 {
					is = false
				}
			}
		}
		if is {
			ideals = append(ideals, set)
		}
	}
	return ideals
}

// isUpTo: x is y or below it, told by Join, where the program goes by Meet.
func isUpTo(l api.Lattice, x, y int) bool { return l.Join[x][y] == y }

func isNothing(l api.Lattice) bool { return l.N == 0 && l.Meet == nil && l.Join == nil }

func TestK1Lattice(t *testing.T) {
	square := samples.TimesLattice(samples.ChainLattice(2), samples.ChainLattice(2))
	for _, c := range []struct {
		o    api.Order
		want api.Lattice
	}{
		{below(), samples.ChainLattice(1)},
		{api.Order{Below: []int{}}, samples.ChainLattice(1)},
		{below(0), samples.ChainLattice(2)},
		{below(0, 0), square},
		{below(0, 1), samples.ChainLattice(3)},
		{below(2, 0), samples.ChainLattice(3)},
		{samples.Rising(), samples.ChainLattice(11)},
		{samples.Falling(), samples.ChainLattice(11)},
		{below(0, 0, 0), samples.TimesLattice(samples.ChainLattice(2), square)},
		// Two chains of two points: the second one is the greater part of a set's number.
		{below(0, 1, 0, 4), samples.TimesLattice(samples.ChainLattice(3), samples.ChainLattice(3))},
	} {
		if got, err := Lattice(c.o); err != api.OK || !reflect.DeepEqual(got, c.want) {
			t.Errorf("Lattice(%v) = %v, error %d, want %v", c.o, got, err, c.want)
		}
	}
}

func TestK1ByItsWords(t *testing.T) {
	fit, many := 0, 0
	for _, o := range triedOrders() {
		ideals := plainIdeals(o)
		l, err := Lattice(o)
		if len(ideals) > api.MaxLattice {
			many++
			if err != api.ErrMany || !isNothing(l) {
				t.Fatalf("Lattice(%v) = %v, error %d, of %d ideals", o, l, err, len(ideals))
			}
			continue
		}
		fit++
		if err != api.OK || l.N != len(ideals) || !samples.IsLattice(l) {
			t.Fatalf("Lattice(%v) = %v, error %d", o, l, err)
		}
		for x, a := range ideals {
			for y, b := range ideals {
				if ideals[l.Meet[x][y]] != a&b || ideals[l.Join[x][y]] != a|b {
					t.Fatalf("Lattice(%v): of %d and %d the Meet is %d, the Join %d", o, a, b, ideals[l.Meet[x][y]], ideals[l.Join[x][y]])
				}
			}
		}
	}
	if fit < 500 || many < 100 {
		t.Errorf("only %d orders with few ideals and %d with many were tried", fit, many)
	}
}

func TestK1TooMany(t *testing.T) {
	for _, c := range []struct {
		o    api.Order
		n    int
		want api.Errno
	}{
		{edge(), 40, api.OK},
		{beyond(), 0, api.ErrMany},
		{below(0, 0, 0, 0, 0), 32, api.OK},
		{below(0, 0, 0, 0, 0, 0), 0, api.ErrMany},
		{samples.Apart(), 0, api.ErrMany},
	} {
		if l, err := Lattice(c.o); err != c.want || l.N != c.n || err != api.OK && !isNothing(l) {
			t.Errorf("Lattice(%v) has %d, error %d, want %d, error %d", c.o, l.N, err, c.n, c.want)
		}
	}
}

// isJoin tells whether an element is the Join of some that are below it: all of their sets are tried, if they are few; else all twos, which is enough, for the Join of more is that of the last one and what the others come to.
func isJoin(l api.Lattice, x int) bool {
	var lower []int
	for y := range l.N {
		if y != x && isUpTo(l, y, x) {
			lower = append(lower, y)
		}
	}
	if len(lower) > 6 {
		for _, y := range lower {
			for _, z := range lower {
				if l.Join[y][z] == x {
					return true
				}
			}
		}
		return false
	}
	for set := 1; set < 1<<len(lower); set++ {
		join := -1
		for i, y := range lower {
			if set>>i&1 == 1 && join < 0 {
				join = y
			} else if set>>i&1 == 1 {
				join = l.Join[y][join]
			}
		}
		if join == x {
			return true
		}
	}
	return false
}

// plainPoints by the words of K2.
func plainPoints(l api.Lattice) []int {
	var points []int
	for x := range l.N {
		something := false
		for y := range l.N {
			something = something || y != x && isUpTo(l, y, x)
		}
		if something && !isJoin(l, x) {
			points = append(points, x)
		}
	}
	return points
}

func TestK2Irreducible(t *testing.T) {
	for _, c := range []struct {
		name string
		l    api.Lattice
		want []int
	}{
		{"one element", samples.ChainLattice(1), nil},
		{"two", samples.ChainLattice(2), []int{1}},
		{"two, the other way round", api.Lattice{N: 2, Meet: samples.ChainLattice(2).Join, Join: samples.ChainLattice(2).Meet}, []int{0}},
		{"a chain", samples.ChainLattice(6), []int{1, 2, 3, 4, 5}},
		{"a square", samples.StarLattice(4), []int{1, 2}},
		{"the diamond", samples.StarLattice(5), []int{1, 2, 3}},
		{"the pentagon", samples.SetLattice([]int{0, 1, 3, 4, 7}), []int{1, 2, 3}},
		{"a star whose last has one more above it", samples.SetLattice([]int{0, 1, 2, 3, 7}), []int{1, 2, 4}},
	} {
		if got, err := Irreducible(c.l); err != api.OK || !slices.Equal(got, c.want) {
			t.Errorf("%s: %v, error %d, want %v", c.name, got, err, c.want)
		}
	}
}

func TestK2ByItsWords(t *testing.T) {
	for _, l := range tried() {
		points := plainPoints(l)
		if got, err := Irreducible(l); err != api.OK || !slices.Equal(got, points) {
			t.Fatalf("Irreducible(%v) = %v, error %d, want %v", l, got, err, points)
		}
		if len(points) > api.MaxPoints {
			tooMany(t, l)
			continue
		}
		isPointsOf(t, l, points)
		for x := range l.N {
			want := 0
			for i, point := range points {
				if isUpTo(l, point, x) {
					want += 1 << i
				}
			}
			if got, err := Set(l, x); err != api.OK || got != want {
				t.Fatalf("Set(%v, %d) = %d, error %d, want %d", l, x, got, err, want)
			}
		}
		for _, x := range []int{-1, l.N, math.MaxInt, math.MinInt} {
			if got, err := Set(l, x); err != api.ErrRange || got != 0 {
				t.Fatalf("Set(%v, %d) = %d, error %d", l, x, got, err)
			}
		}
	}
}

// isPointsOf a lattice: the order that Points tells has of its points just those below one another that are so as elements.
func isPointsOf(t *testing.T, l api.Lattice, points []int) {
	t.Helper()
	o, err := Points(l)
	if err != api.OK || o.N != len(points) || len(o.Below) != o.N {
		t.Fatalf("Points(%v) = %v, error %d", l, o, err)
	}
	for i, x := range points {
		for k, y := range points {
			if samples.IsBelow(o, i, k) != (i != k && isUpTo(l, x, y)) {
				t.Fatalf("Points(%v) = %v, but %d and %d", l, o, x, y)
			}
		}
		if o.Below[i] >= 1<<o.N {
			t.Fatalf("Points(%v) = %v", l, o)
		}
	}
}

// tooMany points: neither their order nor a set of them is told; but first what is no element.
func tooMany(t *testing.T, l api.Lattice) {
	t.Helper()
	if o, err := Points(l); err != api.ErrMany || o.N != 0 || o.Below != nil {
		t.Fatalf("Points of %d elements: %v, error %d", l.N, o, err)
	}
	for x := range l.N {
		if set, err := Set(l, x); err != api.ErrMany || set != 0 {
			t.Fatalf("Set of %d in %d elements: %d, error %d", x, l.N, set, err)
		}
	}
	for _, x := range []int{-1, l.N, math.MaxInt, math.MinInt} {
		if set, err := Set(l, x); err != api.ErrRange || set != 0 {
			t.Fatalf("Set of %d in %d elements: %d, error %d", x, l.N, set, err)
		}
	}
}

func TestK2TooManyPoints(t *testing.T) {
	most := samples.ChainLattice(11)
	if o, err := Points(most); err != api.OK || !slices.Equal(o.Below, samples.Rising().Below) {
		t.Errorf("Points of a chain of 11: %v, error %d", o, err)
	}
	if set, err := Set(most, 10); err != api.OK || set != 1023 {
		t.Errorf("Set of the greatest of 11: %d, error %d", set, err)
	}
	if o, err := Points(samples.StarLattice(12)); err != api.OK || !slices.Equal(o.Below, make([]int, 10)) {
		t.Errorf("Points of a star of 12: %v, error %d", o, err)
	}
	for _, l := range []api.Lattice{samples.ChainLattice(12), samples.ChainLattice(40), samples.StarLattice(13), samples.StarLattice(40)} {
		tooMany(t, l)
	}
	for _, c := range []struct {
		l    api.Lattice
		want int
	}{{samples.ChainLattice(12), 11}, {samples.ChainLattice(40), 39}, {samples.StarLattice(40), 38}} {
		if got, err := Irreducible(c.l); err != api.OK || len(got) != c.want || got[0] != 1 || got[c.want-1] != c.want {
			t.Errorf("Irreducible of %d elements: %v, error %d", c.l.N, got, err)
		}
	}
}

// byIdeals: an order whose points are numbered as the sets of each and those below it rise.
func byIdeals(o api.Order) api.Order {
	upTo := func(point int) int { return o.Below[point] + 1<<point }
	points := make([]int, o.N)
	for i := range points {
		points[i] = i
	}
	slices.SortFunc(points, func(a, b int) int { return upTo(a) - upTo(b) })
	sets := make([]int, o.N)
	for i, upper := range points {
		for k, lower := range points {
			if samples.IsBelow(o, lower, upper) {
				sets[i] += 1 << k
			}
		}
	}
	return below(sets...)
}

func TestK3ThePointsOfAnOrdersLatticeAreThatOrder(t *testing.T) {
	tried := 0
	for _, o := range triedOrders() {
		l, err := Lattice(o)
		if err != api.OK {
			continue
		}
		tried++
		want := byIdeals(o)
		if got, err := Points(l); err != api.OK || got.N != o.N || !slices.Equal(got.Below, want.Below) {
			t.Fatalf("Points(Lattice(%v)) = %v, error %d, want %v", o, got, err, want)
		}
		if is, err := lattice.Distributive(l); err != api.OK || !is {
			t.Fatalf("Lattice(%v) = %v is not distributive", o, l)
		}
	}
	if tried < 500 {
		t.Errorf("only %d orders were tried", tried)
	}
	// If only lesser numbers are below a point, not even the numbers change.
	for _, o := range samples.NaturalOrders(5) {
		l, _ := Lattice(o)
		if got, err := Points(l); err != api.OK || !slices.Equal(got.Below, o.Below) {
			t.Fatalf("Points(Lattice(%v)) = %v, error %d", o, got, err)
		}
	}
}

// asSets: of each element the set of points up to it.
func asSets(t *testing.T, l api.Lattice) []int {
	t.Helper()
	sets := make([]int, l.N)
	for x := range l.N {
		set, err := Set(l, x)
		if err != api.OK {
			t.Fatalf("Set(%v, %d): error %d", l, x, err)
		}
		sets[x] = set
	}
	return sets
}

func TestK3JustADistributiveLatticeIsThatOfItsPointsIdeals(t *testing.T) {
	kinds := map[bool]int{}
	for _, l := range tried() {
		points, err := Points(l)
		if err != api.OK {
			continue
		}
		distributive, _ := lattice.Distributive(l)
		kinds[distributive]++
		sets := asSets(t, l)
		rising := slices.Sorted(slices.Values(sets))
		ideals, err := order.Ideals(points)
		if err != api.OK || slices.Equal(rising, ideals) != distributive {
			t.Fatalf("%v: its sets are %v, the ideals of its points %v, distributive %v", l, rising, ideals, distributive)
		}
		// In any lattice no two elements have the same points, and what two have in common are those of their Meet.
		if len(slices.Compact(rising)) != l.N {
			t.Fatalf("%v: two have the same set: %v", l, sets)
		}
		together := true
		for x := range l.N {
			for y := range l.N {
				together = together && sets[l.Join[x][y]] == sets[x]|sets[y]
				if sets[l.Meet[x][y]] != sets[x]&sets[y] {
					t.Fatalf("%v: %d and %d have other points in common: %v", l, x, y, sets)
				}
			}
		}
		if together != distributive {
			t.Fatalf("%v: distributive %v, but its sets are %v", l, distributive, sets)
		}
	}
	if kinds[true] < 50 || kinds[false] < 300 {
		t.Errorf("distributive lattices and others that were tried: %v", kinds)
	}
}

func TestK3FreeDistributiveLattices(t *testing.T) {
	// How many elements the free distributive lattices have is well known: they are the ideals of all sets of n points.
	for n, want := range []int{2, 3, 6, 20} {
		o := below()
		for set := range 1 << n {
			under := 0
			for other := range set {
				if other&^set == 0 {
					under |= 1 << other
				}
			}
			o = below(append(o.Below, under)...)
		}
		if l, err := Lattice(o); err != api.OK || l.N != want {
			t.Errorf("the sets of %d points: %d, error %d, want %d", n, l.N, err, want)
		}
	}
}

func TestA1J1CheckIsToldFirst(t *testing.T) {
	for _, w := range samples.WrongOrders() {
		if l, err := Lattice(w.Order); err != w.Err || !isNothing(l) {
			t.Errorf("Lattice(%v) = %v, error %d, want error %d", w.Order, l, err, w.Err)
		}
	}
	// What is wrong with a great lattice comes ahead of its having too many points.
	great := samples.ChainLattice(40)
	great.Join[39][39] = 38
	for _, w := range append(samples.WrongLattices(), samples.WrongLattice{Lattice: great, Err: api.ErrState}) {
		l := w.Lattice
		if list, err := Irreducible(l); err != w.Err || list != nil {
			t.Errorf("Irreducible(%v) = %v, error %d", l, list, err)
		}
		if o, err := Points(l); err != w.Err || o.N != 0 || o.Below != nil {
			t.Errorf("Points(%v) = %v, error %d", l, o, err)
		}
		for _, x := range []int{0, 1, -1, 100, math.MaxInt, math.MinInt} {
			if set, err := Set(l, x); err != w.Err || set != 0 {
				t.Errorf("Set(%v, %d) = %d, error %d", l, x, set, err)
			}
		}
	}
}

func TestP2P3OrdersAreOnlyReadAndTheSameEachTime(t *testing.T) {
	for _, o := range []api.Order{below(), below(0), below(0, 1, 0), samples.Falling(), edge()} {
		list, room := samples.Roomy(o.Below...)
		before := slices.Clone(room)
		want, _ := Lattice(o)
		for range 2 {
			got, err := Lattice(api.Order{N: o.N, Below: list})
			if err != api.OK || !reflect.DeepEqual(got, want) || !slices.Equal(room, before) {
				t.Fatalf("Lattice(%v) = %v, error %d", o, got, err)
			}
			if samples.Shared(append(samples.Rows(got), room)...) {
				t.Fatalf("Lattice(%v) shares memory", o)
			}
			for _, row := range samples.Rows(got) {
				samples.Spoil(row)
			}
		}
	}
}

func TestP2P3LatticesAreOnlyReadAndTheSameEachTime(t *testing.T) {
	for _, right := range []api.Lattice{samples.ChainLattice(1), samples.ChainLattice(11), samples.StarLattice(7), samples.TimesLattice(samples.StarLattice(5), samples.StarLattice(8))} {
		l, rooms := samples.RoomyLattice(right)
		before := make([][]int, len(rooms))
		for i, room := range rooms {
			before[i] = slices.Clone(room)
		}
		list, _ := Irreducible(right)
		o, _ := Points(right)
		for range 2 {
			elements, _ := Irreducible(l)
			points, _ := Points(l)
			if !slices.Equal(elements, list) || !slices.Equal(points.Below, o.Below) {
				t.Errorf("Irreducible(%v) = %v, Points %v", l, elements, points)
			}
			if samples.Shared(append(rooms, elements, points.Below)...) {
				t.Errorf("the answers of %v share memory", right)
			}
			samples.Spoil(elements)
			samples.Spoil(points.Below)
			for x := range l.N {
				one, _ := Set(l, x)
				if two, _ := Set(right, x); one != two {
					t.Errorf("Set(%v, %d) = %d and %d", l, x, one, two)
				}
			}
		}
		if !reflect.DeepEqual(rooms, before) || !samples.HasRoom(l) {
			t.Errorf("the tables of %v were changed", right)
		}
	}
}
