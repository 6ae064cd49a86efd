package samples

import (
	"math"
	"slices"

	"hasse/api"
)

// LatticeOf an order, by the words of J2: of each two points all are tried; false: two have no Meet or no Join, or there are no points.
func LatticeOf(o api.Order) (api.Lattice, bool) {
	up := func(lower, upper int) bool { return lower == upper || IsBelow(o, lower, upper) }
	down := func(upper, lower int) bool { return up(lower, upper) }
	meet, hasMeet := bounds(o.N, up)
	join, hasJoin := bounds(o.N, down)
	if o.N == 0 || !hasMeet || !hasJoin {
		return api.Lattice{}, false
	}
	return api.Lattice{N: o.N, Meet: meet, Join: join}, true
}

// bounds of each two: what is before both of them, so that all that is so is before it.
func bounds(n int, before func(a, b int) bool) ([][]int, bool) {
	table := make([][]int, n)
	for x := range n {
		for y := range n {
			for m := range n {
				last := before(m, x) && before(m, y)
				for k := range n {
					last = last && (!before(k, x) || !before(k, y) || before(k, m))
				}
				if last {
					table[x] = append(table[x], m)
				}
			}
			if len(table[x]) != y+1 {
				return nil, false
			}
		}
	}
	return table, true
}

// IsLattice tells of tables of elements by the words of chapter 10, law by law, whether they are a lattice.
func IsLattice(l api.Lattice) bool {
	ok := true
	for x := range l.N {
		ok = ok && l.Meet[x][x] == x && l.Join[x][x] == x
		for y := range l.N {
			ok = ok && l.Meet[x][y] == l.Meet[y][x]
			ok = ok && l.Join[x][y] == l.Join[y][x]
			ok = ok && l.Meet[x][l.Join[x][y]] == x
			ok = ok && l.Join[x][l.Meet[x][y]] == x
			for z := range l.N {
				ok = ok && l.Meet[x][l.Meet[y][z]] == l.Meet[l.Meet[x][y]][z]
				ok = ok && l.Join[x][l.Join[y][z]] == l.Join[l.Join[x][y]][z]
			}
		}
	}
	return ok
}

// NaturalLattices of n elements: all in which only lesser numbers are below an element. Each lattice is one of these, numbered anew.
func NaturalLattices(n int) []api.Lattice {
	if n < 2 {
		return []api.Lattice{{N: 1, Meet: [][]int{{0}}, Join: [][]int{{0}}}}
	}
	var lattices []api.Lattice
	for _, o := range NaturalOrders(n - 2) {
		sets := []int{0}
		for _, set := range o.Below {
			sets = append(sets, set<<1|1)
		}
		if l, is := LatticeOf(Below(append(sets, 1<<(n-1)-1)...)); is {
			lattices = append(lattices, l)
		}
	}
	return lattices
}

// SmallLattices: all natural ones of up to seven elements, each numbered anew, too.
func SmallLattices() []api.Lattice {
	var lattices []api.Lattice
	draw := new(Draw)
	for n := 1; n <= 7; n++ {
		for _, l := range NaturalLattices(n) {
			lattices = append(lattices, l, RenumberedLattice(l, draw))
		}
	}
	return lattices
}

// RenumberedLattice: the same lattice, its elements numbered any way.
func RenumberedLattice(l api.Lattice, draw *Draw) api.Lattice {
	names := shuffled(l.N, draw)
	olds := make([]int, l.N)
	for old, name := range names {
		olds[name] = old
	}
	anew := func(table [][]int) func(x, y int) int {
		return func(x, y int) int { return names[table[olds[x]][olds[y]]] }
	}
	return api.Lattice{N: l.N, Meet: tableOf(l.N, anew(l.Meet)), Join: tableOf(l.N, anew(l.Join))}
}

func tableOf(n int, at func(x, y int) int) [][]int {
	table := make([][]int, n)
	for x := range n {
		for y := range n {
			table[x] = append(table[x], at(x, y))
		}
	}
	return table
}

// ChainLattice of n elements, from 0 up.
func ChainLattice(n int) api.Lattice {
	return api.Lattice{N: n, Meet: tableOf(n, func(x, y int) int { return min(x, y) }), Join: tableOf(n, func(x, y int) int { return max(x, y) })}
}

// StarLattice of n elements: the first one below all, the last one above all, and of the others none below another one.
func StarLattice(n int) api.Lattice {
	sets := make([]int, n)
	for i := range sets {
		sets[i] = 1 << i
	}
	sets[0], sets[n-1] = 0, 1<<n-1
	return SetLattice(sets)
}

// SetLattice of sets, one of which has all others in it, and among which is what any two of them share; numbered as they stand.
func SetLattice(sets []int) api.Lattice {
	meet := func(x, y int) int { return slices.Index(sets, sets[x]&sets[y]) }
	join := func(x, y int) int {
		both := -1
		for _, set := range sets {
			if (sets[x]|sets[y])&^set == 0 {
				both &= set
			}
		}
		return slices.Index(sets, both)
	}
	return api.Lattice{N: len(sets), Meet: tableOf(len(sets), meet), Join: tableOf(len(sets), join)}
}

// TimesLattice: pairs of elements, (x, y) being x*b.N + y.
func TimesLattice(a, b api.Lattice) api.Lattice {
	n := a.N * b.N
	pairs := func(first, second [][]int) func(x, y int) int {
		return func(x, y int) int { return first[x/b.N][y/b.N]*b.N + second[x%b.N][y%b.N] }
	}
	return api.Lattice{N: n, Meet: tableOf(n, pairs(a.Meet, b.Meet)), Join: tableOf(n, pairs(a.Join, b.Join))}
}

// GreatLattices, at least as many as are told: the greatest chain and the greatest star, the greatest products, and drawn ones, numbered any way.
func GreatLattices(count int) []api.Lattice {
	most := api.MaxLattice
	lattices := []api.Lattice{ChainLattice(most), StarLattice(most), TimesLattice(ChainLattice(5), ChainLattice(8)), TimesLattice(StarLattice(5), StarLattice(8))}
	draw := new(Draw)
	for len(lattices) < count {
		sets := []int{63}
		for range 2 + draw.Next(9) {
			sets = closed(sets, draw.Next(64), draw.Next(2) == 0)
		}
		if len(sets) <= most {
			lattices = append(lattices, RenumberedLattice(SetLattice(sets), draw))
		}
		few := TimesLattice(StarLattice(3+draw.Next(4)), SetLattice(closed([]int{63}, draw.Next(64), true)))
		lattices = append(lattices, RenumberedLattice(few, draw))
	}
	return lattices
}

// closed: sets with one more, and with all that they share with it; if it is asked for, with all that they have together with it, too.
func closed(sets []int, more int, together bool) []int {
	if slices.Contains(sets, more) {
		return sets
	}
	met := append([]int{}, sets...)
	met = append(met, more)
	for _, set := range sets {
		met = closed(met, set&more, together)
		if together {
			met = closed(met, set|more, together)
		}
	}
	return met
}

// Rows of both tables.
func Rows(l api.Lattice) [][]int { return append(append([][]int{}, l.Meet...), l.Join...) }

// RoomyLattice: the same lattice, its lists with spare room behind them; all that room, with marks that must stay, comes along.
func RoomyLattice(l api.Lattice) (api.Lattice, [][]int) {
	var rooms [][]int
	lay := func(table [][]int) [][]int {
		rows := make([][]int, 0, len(table)+3)
		for _, row := range table {
			list, room := Roomy(row...)
			rows = append(rows, list)
			rooms = append(rooms, room)
		}
		return rows
	}
	return api.Lattice{N: l.N, Meet: lay(l.Meet), Join: lay(l.Join)}, rooms
}

// HasRoom tells whether the room behind the tables of a roomy lattice is as it was laid.
func HasRoom(l api.Lattice) bool {
	for _, table := range [2][][]int{l.Meet, l.Join} {
		for _, row := range table[l.N:cap(table)] {
			if row != nil {
				return false
			}
		}
	}
	return true
}

// WrongLattice is what is no lattice, and what is wrong with it.
type WrongLattice struct {
	Lattice api.Lattice
	Err     api.Errno
}

// WrongLattices: each thing that can be wrong in either table, and where several are, the one that is told.
func WrongLattices() []WrongLattice {
	low, high := [][]int{{0, 0}, {0, 1}}, [][]int{{0, 1}, {1, 1}}
	wrong := []WrongLattice{
		{api.Lattice{}, api.ErrMany},
		{api.Lattice{N: -1}, api.ErrMany},
		{api.Lattice{N: 41, Meet: ChainLattice(41).Meet, Join: ChainLattice(41).Join}, api.ErrMany},
		{api.Lattice{N: math.MaxInt}, api.ErrMany},
		{api.Lattice{N: math.MinInt, Meet: low, Join: high}, api.ErrMany},
		{api.Lattice{N: 0, Meet: [][]int{{7}}, Join: high}, api.ErrMany},
		{api.Lattice{N: 1}, api.ErrForm},
		{api.Lattice{N: 3, Meet: low, Join: high}, api.ErrForm},
		{api.Lattice{N: 1, Meet: low, Join: high}, api.ErrForm},
	}
	for _, c := range wrongTables() {
		wrong = append(wrong, WrongLattice{api.Lattice{N: len(c.good), Meet: c.bad, Join: c.good}, c.err})
		wrong = append(wrong, WrongLattice{api.Lattice{N: len(c.good), Meet: c.good, Join: c.bad}, c.err})
	}
	return wrong
}

type wrongTable struct {
	bad, good [][]int
	err       api.Errno
}

// wrongTables: tables that are wrong beside one that could stand there.
func wrongTables() []wrongTable {
	low := [][]int{{0, 0}, {0, 1}}
	return []wrongTable{
		{nil, low, api.ErrForm},
		{[][]int{{0, 1}}, low, api.ErrForm},
		{[][]int{{0, 1}, {1, 1}, {1, 1}}, low, api.ErrForm},
		{[][]int{{0, 1}, {1}}, low, api.ErrForm},
		{[][]int{{0, 1}, {1, 1, 1}}, low, api.ErrForm},
		{[][]int{{}, {1, 1}}, low, api.ErrForm},
		{[][]int{{0, 9}, nil}, low, api.ErrForm},
		{[][]int{{0}}, [][]int{{9, 9}, {9, 9}}, api.ErrForm},
		{[][]int{{0, 1}, {1, 2}}, low, api.ErrRange},
		{[][]int{{-1, 1}, {1, 1}}, low, api.ErrRange},
		{[][]int{{0, math.MaxInt}, {1, 1}}, low, api.ErrRange},
		{[][]int{{0, 1}, {math.MinInt, 1}}, low, api.ErrRange},
		{[][]int{{0, 1}, {0, 5}}, low, api.ErrRange},
		{[][]int{{1}}, [][]int{{0}}, api.ErrRange},
		// Of two the first one, or the second one: all holds but that either way round is the same.
		{[][]int{{0, 0}, {1, 1}}, low, api.ErrState},
		{[][]int{{0, 1}, {0, 1}}, low, api.ErrState},
		// Both are the same table.
		{low, low, api.ErrState},
		// Always the same element.
		{[][]int{{1, 1}, {1, 1}}, low, api.ErrState},
		// Only that one is got out of the other is broken: 0 and 1 come together too far.
		{[][]int{{0, 2, 2}, {2, 1, 2}, {2, 2, 2}}, [][]int{{0, 0, 0}, {0, 1, 1}, {0, 1, 2}}, api.ErrState},
		// Only which two are taken first tells: 2 and 3 have 0 in place of 1, which is below them.
		{[][]int{{0, 0, 0, 0, 0}, {0, 1, 1, 1, 1}, {0, 1, 2, 0, 2}, {0, 1, 0, 3, 3}, {0, 1, 2, 3, 4}}, [][]int{{0, 1, 2, 3, 4}, {1, 1, 2, 3, 4}, {2, 2, 2, 4, 4}, {3, 3, 4, 3, 4}, {4, 4, 4, 4, 4}}, api.ErrState},
		// Three, each below the next one, and the last one below the first.
		{[][]int{{0, 0, 2}, {0, 1, 1}, {2, 1, 2}}, [][]int{{0, 1, 0}, {1, 1, 2}, {0, 2, 2}}, api.ErrState},
	}
}
