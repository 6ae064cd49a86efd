package fix

import (
	"reflect"
	"slices"
	"testing"

	"hasse/api"
	"hasse/lattice"
	"hasse/samples"
)

// in tells whether an element of a lattice is another one or below it, by Join, where the program goes by Meet.
func in(l api.Lattice, lower, upper int) bool { return l.Join[lower][upper] == upper }

// rises by the words of chapter 13.
func rises(l api.Lattice, f []int) bool {
	for x := range l.N {
		for y := range l.N {
			if x != y && in(l, x, y) && !in(l, f[x], f[y]) {
				return false
			}
		}
	}
	return true
}

// leftBy a map: all elements that go to themselves.
func leftBy(f []int) []int {
	var left []int
	for x := range f {
		if f[x] == x {
			left = append(left, x)
		}
	}
	return left
}

// risingMap of a lattice: each element goes to the Join of what all up to it are drawn to, or, turned over, to the Meet.
func risingMap(l api.Lattice, draw *samples.Draw) []int {
	drawn := samples.DrawnMap(l.N, l.N, draw)
	// Few different ones, and often itself, else nearly all would go to the ends.
	few := draw.Next(l.N)
	for x := range drawn {
		if draw.Next(3) > 0 {
			drawn[x] = []int{x, few}[draw.Next(2)]
		}
	}
	up := draw.Next(2) == 0
	f := slices.Clone(drawn)
	for x := range l.N {
		for y := range l.N {
			if up && in(l, y, x) {
				f[x] = l.Join[f[x]][drawn[y]]
			}
			if !up && in(l, x, y) {
				f[x] = l.Meet[f[x]][drawn[y]]
			}
		}
	}
	return f
}

// isEnd: an element is one of a list, and is so to all of it.
func isEnd(list []int, x int, so func(x, y int) bool) bool {
	for _, y := range list {
		if !so(x, y) {
			return false
		}
	}
	return slices.Contains(list, x)
}

// hasEnds: Least and Greatest answer of a map what the words say.
func hasEnds(t *testing.T, l api.Lattice, f []int) {
	t.Helper()
	least, err1 := Least(l, f)
	greatest, err2 := Greatest(l, f)
	if !rises(l, f) {
		if err1 != api.ErrState || err2 != api.ErrState || least != 0 || greatest != 0 {
			t.Fatalf("%v by %v: %d, error %d; %d, error %d", l, f, least, err1, greatest, err2)
		}
		return
	}
	left := leftBy(f)
	isLeast := isEnd(left, least, func(x, y int) bool { return in(l, x, y) })
	isGreatest := isEnd(left, greatest, func(x, y int) bool { return in(l, y, x) })
	if err1 != api.OK || err2 != api.OK || !isLeast || !isGreatest {
		t.Fatalf("%v by %v: %d, error %d; %d, error %d; left are %v", l, f, least, err1, greatest, err2, left)
	}
}

func TestM3LeastAndGreatest(t *testing.T) {
	up, down := make([]int, 40), make([]int, 40)
	for x := range 40 {
		up[x], down[x] = min(x+1, 39), max(x-1, 0)
	}
	square := samples.StarLattice(4)
	chain := samples.ChainLattice(4)
	for _, c := range []struct {
		name            string
		l               api.Lattice
		f               []int
		least, greatest int
	}{
		{"one element", samples.ChainLattice(1), []int{0}, 0, 0},
		{"each to itself", square, []int{0, 1, 2, 3}, 0, 3},
		{"two are exchanged", square, []int{0, 2, 1, 3}, 0, 3},
		{"all to one between", square, []int{2, 2, 2, 2}, 2, 2},
		{"up to one between", square, []int{1, 1, 3, 3}, 1, 3},
		{"down to one between", square, []int{0, 0, 2, 2}, 0, 2},
		{"some in a chain", chain, []int{1, 1, 2, 2}, 1, 2},
		{"turned over", api.Lattice{N: 4, Meet: chain.Join, Join: chain.Meet}, []int{1, 1, 2, 2}, 2, 1},
		{"up a long chain", samples.ChainLattice(40), up, 39, 39},
		{"down a long chain", samples.ChainLattice(40), down, 0, 0},
		{"all of a star to one", samples.StarLattice(40), slices.Repeat([]int{17}, 40), 17, 17},
	} {
		least, err1 := Least(c.l, c.f)
		greatest, err2 := Greatest(c.l, c.f)
		if err1 != api.OK || err2 != api.OK || least != c.least || greatest != c.greatest {
			t.Errorf("%s: %d, error %d; %d, error %d; want %d and %d", c.name, least, err1, greatest, err2, c.least, c.greatest)
		}
	}
}

func TestM3ByItsWords(t *testing.T) {
	draw := new(samples.Draw)
	for n := 1; n <= 4; n++ {
		for _, l := range samples.NaturalLattices(n) {
			for _, l := range []api.Lattice{l, samples.RenumberedLattice(l, draw)} {
				for _, f := range samples.Maps(n, n) {
					hasEnds(t, l, f)
				}
			}
		}
	}
	inner := 0
	for _, l := range append(samples.SmallLattices(), samples.GreatLattices(60)...) {
		for range 4 {
			f := risingMap(l, draw)
			hasEnds(t, l, f)
			if left := len(leftBy(f)); left > 1 && left < l.N {
				inner++
			}
			f[draw.Next(l.N)] = draw.Next(l.N)
			hasEnds(t, l, f)
		}
	}
	if inner < 200 {
		t.Errorf("only %d maps left several elements, but not all", inner)
	}
}

func TestM3WrongMaps(t *testing.T) {
	for _, l := range []api.Lattice{samples.ChainLattice(1), samples.ChainLattice(3), samples.StarLattice(5), samples.StarLattice(40)} {
		wrong := samples.WrongMaps(l.N, l.N)
		if l.N > 1 {
			// The least element goes above where all others go; and what is no element comes ahead of that.
			falls := make([]int, l.N)
			falls[0] = 1
			outside := slices.Clone(falls)
			outside[l.N-1] = l.N
			wrong = append(wrong, samples.WrongMap{Map: falls, Err: api.ErrState}, samples.WrongMap{Map: outside, Err: api.ErrRange})
		}
		for _, w := range wrong {
			if got, err := Least(l, w.Map); err != w.Err || got != 0 {
				t.Errorf("Least(%v, %v) = %d, error %d, want error %d", l, w.Map, got, err, w.Err)
			}
			if got, err := Greatest(l, w.Map); err != w.Err || got != 0 {
				t.Errorf("Greatest(%v, %v) = %d, error %d, want error %d", l, w.Map, got, err, w.Err)
			}
		}
	}
}

func TestM3IsAsFixedSays(t *testing.T) {
	draw := new(samples.Draw)
	for _, l := range samples.SmallLattices() {
		o, err := lattice.Order(l)
		if err != api.OK {
			t.Fatalf("Order(%v): error %d", l, err)
		}
		f := risingMap(l, draw)
		set, err := Fixed(o, f)
		if err != api.OK || set != plainFixed(f) {
			t.Fatalf("Fixed(%v, %v) = %d, error %d", o, f, set, err)
		}
		least, _ := Least(l, f)
		greatest, _ := Greatest(l, f)
		// Of all that is left nothing else is below the one or above the other.
		if set&o.Below[least] != 0 || set>>least&1 == 0 || set>>greatest&1 == 0 || set&^o.Below[greatest] != 1<<greatest {
			t.Fatalf("%v by %v: least %d, greatest %d of %d", o, f, least, greatest, set)
		}
	}
}

func TestM4EachTwoHaveALeastOneAboveBoth(t *testing.T) {
	draw := new(samples.Draw)
	for _, l := range append(samples.SmallLattices(), samples.GreatLattices(60)...) {
		for range 4 {
			f := risingMap(l, draw)
			left := leftBy(f)
			for _, x := range left {
				for _, y := range left {
					var both []int
					for _, z := range left {
						if in(l, x, z) && in(l, y, z) {
							both = append(both, z)
						}
					}
					if !slices.ContainsFunc(both, func(z int) bool {
						return isEnd(both, z, func(z, other int) bool { return in(l, z, other) })
					}) {
						t.Fatalf("%v by %v: above %d and %d are left %v", l, f, x, y, both)
					}
				}
			}
		}
	}
}

func TestJ1CheckIsToldFirst(t *testing.T) {
	for _, w := range samples.WrongLattices() {
		for _, f := range [][]int{nil, {0}, {0, 0}, {1, 0}, {-1, 9}, {0, 1, 2}} {
			if got, err := Least(w.Lattice, f); err != w.Err || got != 0 {
				t.Errorf("Least(%v, %v) = %d, error %d, want error %d", w.Lattice, f, got, err, w.Err)
			}
			if got, err := Greatest(w.Lattice, f); err != w.Err || got != 0 {
				t.Errorf("Greatest(%v, %v) = %d, error %d, want error %d", w.Lattice, f, got, err, w.Err)
			}
		}
	}
}

func TestP2P3LatticesAreOnlyReadAndTheSameEachTime(t *testing.T) {
	draw := new(samples.Draw)
	for _, right := range []api.Lattice{samples.ChainLattice(1), samples.StarLattice(7), samples.TimesLattice(samples.StarLattice(5), samples.StarLattice(8))} {
		l, rooms := samples.RoomyLattice(right)
		f, room := samples.Roomy(risingMap(l, draw)...)
		rooms = append(rooms, room)
		before := make([][]int, len(rooms))
		for i, room := range rooms {
			before[i] = slices.Clone(room)
		}
		for range 2 {
			hasEnds(t, l, f)
		}
		if !reflect.DeepEqual(rooms, before) || !samples.HasRoom(l) {
			t.Errorf("the tables of %v or %v were changed", right, f)
		}
	}
}
