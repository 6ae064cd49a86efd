package heyting

import (
	"math"
	"reflect"
	"slices"
	"testing"

	"hasse/api"
	"hasse/lattice"
	"hasse/samples"
)

func chain(n int) api.Lattice { return samples.ChainLattice(n) }

func times(a, b api.Lattice) api.Lattice { return samples.TimesLattice(a, b) }

func square() api.Lattice { return times(chain(2), chain(2)) }

// cube of sets of three points.
func cube() api.Lattice { return samples.SetLattice(samples.AllSets(3).Sets) }

// fork: the sets of a point 0 below 1 and 2 that have with it all above it.
func fork() api.Lattice { return samples.SetLattice([]int{0, 2, 4, 6, 7}) }

// isUpTo: x is y or below it, told by Join, where the program goes by Meet.
func isUpTo(l api.Lattice, x, y int) bool { return l.Join[x][y] == y }

// ends of a lattice: the least and the greatest element.
func ends(l api.Lattice) (least, greatest int) {
	for x := range l.N {
		if isUpTo(l, x, least) {
			least = x
		}
		if isUpTo(l, greatest, x) {
			greatest = x
		}
	}
	return least, greatest
}

// isDistributive by the other law, which says the same.
func isDistributive(l api.Lattice) bool {
	for x := range l.N {
		for y := range l.N {
			for z := range l.N {
				if l.Join[x][l.Meet[y][z]] != l.Meet[l.Join[x][y]][l.Join[x][z]] {
					return false
				}
			}
		}
	}
	return true
}

// sorted lattices: the distributive ones, and the others.
func sorted(lattices []api.Lattice) (distributive, others []api.Lattice) {
	for _, l := range lattices {
		if isDistributive(l) {
			distributive = append(distributive, l)
		} else {
			others = append(others, l)
		}
	}
	return distributive, others
}

// upSets of an order: those that have with a point all above it, rising.
func upSets(o api.Order) []int {
	var list []int
	for set := range 1 << o.N {
		is := true
		for lower := range o.N {
			for upper := range o.N {
				if samples.IsBelow(o, lower, upper) && set>>lower%2 == 1 && set>>upper%2 == 0 {
					is = false
				}
			}
		}
		if is {
			list = append(list, set)
		}
	}
	return list
}

// tried lattices, distributive ones: small ones, those of orders, and great ones; numbered any way, too.
func tried() []api.Lattice {
	l, _ := sorted(append(samples.SmallLattices(), samples.GreatLattices(80)...))
	draw := new(samples.Draw)
	for _, o := range samples.NaturalOrders(4) {
		of := samples.SetLattice(upSets(o))
		l = append(l, of, samples.RenumberedLattice(of, draw))
	}
	return append(l, chain(16), chain(17), chain(40), square(), cube(), fork(), times(square(), square()), samples.SetLattice(samples.AllSets(5).Sets), times(fork(), cube()))
}

// skew lattices, which are not distributive.
func skew() []api.Lattice {
	_, others := sorted(append(samples.SmallLattices(), samples.GreatLattices(40)...))
	return append(others, samples.StarLattice(5), samples.SetLattice([]int{0, 1, 3, 4, 7}), samples.StarLattice(40))
}

// plainImplies by the words of R1: of all z the one that is so, and than which none that is so is greater; there must be just one.
func plainImplies(t *testing.T, l api.Lattice, x, y int) int {
	t.Helper()
	so := func(z int) bool { return isUpTo(l, l.Meet[x][z], y) }
	var greatest []int
	for z := range l.N {
		is := so(z)
		for other := range l.N {
			is = is && (!so(other) || isUpTo(l, other, z))
		}
		if is {
			greatest = append(greatest, z)
		}
	}
	if len(greatest) != 1 {
		t.Fatalf("%v: %d implies %d: %v", l, x, y, greatest)
	}
	return greatest[0]
}

// plainTable of what each two elements imply.
func plainTable(t *testing.T, l api.Lattice) [][]int {
	t.Helper()
	table := make([][]int, l.N)
	for x := range l.N {
		for y := range l.N {
			table[x] = append(table[x], plainImplies(t, l, x, y))
		}
	}
	return table
}

// plainValue by the words of R2.
func plainValue(l api.Lattice, table [][]int, f api.Formula, vars []int) int {
	of := func(kid int) int { return plainValue(l, table, f.Kids[kid], vars) }
	switch f.Kind {
	case api.FormulaVar:
		return vars[f.Var]
	case api.FormulaAnd:
		return l.Meet[of(0)][of(1)]
	case api.FormulaOr:
		return l.Join[of(0)][of(1)]
	case api.FormulaImplies:
		return table[of(0)][of(1)]
	}
	least, _ := ends(l)
	return least
}

func TestR1Implies(t *testing.T) {
	dual := api.Lattice{N: 3, Meet: chain(3).Join, Join: chain(3).Meet}
	for _, c := range []struct {
		name       string
		l          api.Lattice
		x, y, want int
	}{
		{"one element", chain(1), 0, 0, 0},
		{"two: not 1", chain(2), 1, 0, 0},
		{"two: not 0", chain(2), 0, 0, 1},
		{"a chain, down", chain(5), 3, 1, 1},
		{"a chain, up", chain(5), 1, 3, 4},
		{"a chain, the same", chain(5), 2, 2, 4},
		{"a chain the other way round, down", dual, 0, 1, 1},
		{"a chain the other way round, up", dual, 2, 1, 0},
		{"a square, not 1", square(), 1, 0, 2},
		{"a square, 1 and 2", square(), 1, 2, 2},
		{"a square, down", square(), 3, 1, 1},
		{"a cube", cube(), 5, 6, 6},
		{"a cube, not", cube(), 5, 0, 2},
		{"a fork, not one side", fork(), 1, 0, 2},
		{"a fork, both sides", fork(), 3, 0, 0},
		{"a fork, down", fork(), 4, 3, 3},
		{"a fork, from one side to the other", fork(), 1, 2, 2},
		{"the greatest chain", chain(40), 39, 38, 38},
	} {
		if got, err := Implies(c.l, c.x, c.y); err != api.OK || got != c.want {
			t.Errorf("%s: %d, error %d, want %d", c.name, got, err, c.want)
		}
	}
}

func TestR1ImpliesByItsWords(t *testing.T) {
	draw := new(samples.Draw)
	for _, l := range tried() {
		for x := range l.N {
			for y := range l.N {
				// Of great lattices some.
				if l.N > 12 && draw.Next(l.N) > 2 {
					continue
				}
				want := plainImplies(t, l, x, y)
				if got, err := Implies(l, x, y); err != api.OK || got != want {
					t.Fatalf("Implies(%v, %d, %d) = %d, error %d, want %d", l, x, y, got, err, want)
				}
			}
		}
	}
}

func TestR1WhatIsNoElement(t *testing.T) {
	for _, l := range []api.Lattice{chain(1), chain(2), square(), fork(), chain(40)} {
		for _, x := range []int{-1, l.N, l.N + 1, math.MaxInt, math.MinInt} {
			for _, y := range []int{0, l.N - 1, x} {
				if got, err := Implies(l, x, y); err != api.ErrRange || got != 0 {
					t.Errorf("Implies(%v, %d, %d) = %d, error %d", l, x, y, got, err)
				}
				if got, err := Implies(l, y, x); err != api.ErrRange || got != 0 {
					t.Errorf("Implies(%v, %d, %d) = %d, error %d", l, y, x, got, err)
				}
			}
		}
	}
}

// tells: all calls of lattices tell an error first, whatever else is wrong.
func tells(t *testing.T, l api.Lattice, want api.Errno) {
	t.Helper()
	for _, x := range []int{0, 1, -1, 100, math.MaxInt, math.MinInt} {
		if got, err := Implies(l, x, 0); err != want || got != 0 {
			t.Errorf("Implies(%v, %d, 0) = %d, error %d, want error %d", l, x, got, err, want)
		}
		if got, err := Value(l, v(0), []int{0, 0, x}); err != want || got != 0 {
			t.Errorf("Value(%v) = %d, error %d, want error %d", l, got, err, want)
		}
	}
	for _, f := range []api.Formula{v(0), {}, v(3), endless(api.FormulaOr), {Kind: api.FormulaAnd}} {
		for _, vars := range [][]int{{0, 0, 0}, nil, {1, 1}, {-1, 0, 0}} {
			if got, err := Value(l, f, vars); err != want || got != 0 {
				t.Errorf("Value(%v, %v) = %d, error %d, want error %d", l, vars, got, err, want)
			}
		}
		if got, err := Valid(l, f); err != want || got {
			t.Errorf("Valid(%v) = %v, error %d, want error %d", l, got, err, want)
		}
	}
	if got, err := Regular(l); err != want || got != nil {
		t.Errorf("Regular(%v) = %v, error %d, want error %d", l, got, err, want)
	}
	if got, err := Boolean(l); err != want || got {
		t.Errorf("Boolean(%v) = %v, error %d, want error %d", l, got, err, want)
	}
}

func TestR1J1CheckIsToldFirst(t *testing.T) {
	great := chain(40)
	great.Join[39][39] = 38
	for _, w := range append(samples.WrongLattices(), samples.WrongLattice{Lattice: great, Err: api.ErrState}) {
		tells(t, w.Lattice, w.Err)
	}
}

func TestR1OtherLattices(t *testing.T) {
	lattices := skew()
	for _, l := range lattices {
		tells(t, l, api.ErrState)
	}
	if len(lattices) < 300 {
		t.Errorf("only %d were asked", len(lattices))
	}
}

func TestR2Value(t *testing.T) {
	x, y := v(0), v(1)
	for _, c := range []struct {
		name string
		l    api.Lattice
		f    api.Formula
		vars []int
		want int
	}{
		{"false", chain(3), no(), []int{2, 2, 2}, 0},
		{"false, where 2 is the least", api.Lattice{N: 3, Meet: chain(3).Join, Join: chain(3).Meet}, no(), []int{0, 0, 0}, 2},
		{"the first variable", chain(5), v(0), []int{3, 1, 4}, 3},
		{"the second variable", chain(5), v(1), []int{3, 1, 4}, 1},
		{"the third variable", chain(5), v(2), []int{3, 1, 4}, 4},
		{"and", square(), and(x, y), []int{1, 2, 0}, 0},
		{"or", square(), or(x, y), []int{1, 2, 0}, 3},
		{"implies", square(), implies(x, y), []int{1, 2, 0}, 2},
		{"implies, the other way round", chain(4), implies(y, x), []int{1, 2, 0}, 1},
		{"not", fork(), not(x), []int{1, 0, 0}, 2},
		{"not not", fork(), not(not(x)), []int{3, 0, 0}, 4},
		{"this or not", fork(), or(x, not(x)), []int{1, 0, 0}, 3},
		{"this and not", fork(), and(x, not(x)), []int{1, 0, 0}, 0},
		{"in one another", cube(), implies(and(x, y), or(v(2), no())), []int{3, 6, 1}, 5},
		{"one element", chain(1), implies(x, no()), []int{0, 0, 0}, 0},
		{"as many as there may be", chain(40), stairs(api.FormulaImplies, 14, false), []int{7, 20, 30}, 39},
	} {
		if got, err := Value(c.l, c.f, c.vars); err != api.OK || got != c.want {
			t.Errorf("%s: %d, error %d, want %d", c.name, got, err, c.want)
		}
	}
}

func TestR2ValueByItsWords(t *testing.T) {
	draw := new(samples.Draw)
	formulas := append(smallFormulas(), drawnFormulas(300, 14)...)
	met := map[int]int{}
	for _, l := range tried() {
		table := plainTable(t, l)
		for range 40 {
			f := formulas[draw.Next(len(formulas))]
			vars := samples.DrawnMap(api.MaxVars, l.N, draw)
			want := plainValue(l, table, f, vars)
			if got, err := Value(l, f, vars); err != api.OK || got != want {
				t.Fatalf("Value(%v, %v, %v) = %d, error %d, want %d", l, f, vars, got, err, want)
			}
			met[count(f)]++
		}
	}
	if met[29] < 50 || met[3] < 50 {
		t.Errorf("how great the formulas were: %v", met)
	}
}

func TestR2ValueErrors(t *testing.T) {
	wrong := wrongFormulas()
	for _, l := range []api.Lattice{chain(1), chain(3), square(), chain(12)} {
		for _, w := range samples.WrongMaps(api.MaxVars, l.N) {
			if got, err := Value(l, and(v(0), no()), w.Map); err != w.Err || got != 0 {
				t.Errorf("Value(%v, %v) = %d, error %d, want %d", l, w.Map, got, err, w.Err)
			}
			// What is wrong with the formula comes first.
			for _, f := range wrong {
				if got, err := Value(l, f.f, w.Map); err != f.want || got != 0 {
					t.Errorf("Value of a wrong formula, %v: %d, error %d, want %d", w.Map, got, err, f.want)
				}
			}
		}
		for _, f := range wrong {
			if got, err := Value(l, f.f, []int{0, 0, 0}); err != f.want || got != 0 {
				t.Errorf("Value of a wrong formula: %d, error %d, want %d", got, err, f.want)
			}
		}
	}
}

// laws of logic that hold in each distributive lattice.
func laws() map[string]api.Formula {
	x, y, z := v(0), v(1), v(2)
	return map[string]api.Formula{
		"the same":             implies(x, x),
		"from false all":       implies(no(), x),
		"not false":            not(no()),
		"this from that":       implies(x, implies(y, x)),
		"one behind the other": implies(and(implies(x, y), implies(y, z)), implies(x, z)),
		"not not, forth":       implies(x, not(not(x))),
		"three nots":           implies(not(not(not(x))), not(x)),
		"not both":             not(and(x, not(x))),
		"not not this or not":  not(not(or(x, not(x)))),
		"turned over":          implies(implies(x, y), implies(not(y), not(x))),
		"not or":               implies(and(not(x), not(y)), not(or(x, y))),
		"both ways in":         implies(and(implies(x, z), implies(y, z)), implies(or(x, y), z)),
		"given out":            implies(and(x, or(y, z)), or(and(x, y), and(x, z))),
	}
}

func TestR2Valid(t *testing.T) {
	x, y, z := v(0), v(1), v(2)
	lattices := []api.Lattice{chain(1), chain(2), chain(3), chain(16), square(), cube(), fork()}
	for name, f := range laws() {
		for _, l := range lattices {
			if got, err := Valid(l, f); err != api.OK || !got {
				t.Errorf("%s, in %v: %v, error %d", name, l, got, err)
			}
		}
	}
	// In which of the lattices above what is so in two elements is so.
	sets, chains := []bool{true, true, false, false, true, true, false}, []bool{true, true, true, true, true, true, false}
	for _, c := range []struct {
		name string
		f    api.Formula
		want []bool
	}{
		{"this or not", or(x, not(x)), sets},
		{"not not, back", implies(not(not(z)), z), sets},
		{"Peirce", implies(implies(implies(x, y), x), x), sets},
		{"turned back", implies(implies(not(y), not(x)), implies(x, y)), sets},
		{"one way or the other", or(implies(x, y), implies(y, x)), chains},
		{"not or not not", or(not(y), not(not(y))), chains},
		{"not and", implies(not(and(x, z)), or(not(x), not(z))), chains},
		{"a variable", z, []bool{true, false, false, false, false, false, false}},
		{"false", no(), []bool{true, false, false, false, false, false, false}},
		{"one step or the next", or(implies(x, y), implies(y, z)), sets},
	} {
		for i, l := range lattices {
			if got, err := Valid(l, c.f); err != api.OK || got != c.want[i] {
				t.Errorf("%s, in %v: %v, error %d", c.name, l, got, err)
			}
		}
	}
}

// few elements, so that all values may be looked at.
func few() []api.Lattice {
	return slices.DeleteFunc(tried(), func(l api.Lattice) bool { return l.N > 16 })
}

// someFormulas that are often valid: laws, with drawn formulas as their variables. They are so small that their not not may be asked for, too.
func someFormulas(count int) []api.Formula {
	draw := new(samples.Draw)
	formulas := drawnFormulas(count, 5)
	for range count {
		a, b := drawn(draw, draw.Next(3)), drawn(draw, draw.Next(3))
		formulas = append(formulas, implies(and(a, b), b), implies(a, or(b, a)), or(a, not(a)), implies(not(not(a)), a), or(implies(a, b), implies(b, a)))
	}
	return formulas
}

func TestR2ValidByItsWords(t *testing.T) {
	draw := new(samples.Draw)
	met := map[bool]int{}
	formulas := someFormulas(200)
	for _, l := range few() {
		table := plainTable(t, l)
		_, greatest := ends(l)
		for range 1 + 200/l.N/l.N {
			f := formulas[draw.Next(len(formulas))]
			want := true
			for _, vars := range samples.Maps(api.MaxVars, l.N) {
				want = want && plainValue(l, table, f, vars) == greatest
			}
			if got, err := Valid(l, f); err != api.OK || got != want {
				t.Fatalf("Valid(%v, %v) = %v, error %d", l, f, got, err)
			}
			met[want]++
		}
	}
	if met[true] < 200 || met[false] < 200 {
		t.Errorf("too few were asked: %v", met)
	}
}

func TestR2ValidErrors(t *testing.T) {
	wrong := wrongFormulas()
	for _, c := range []struct {
		l    api.Lattice
		want api.Errno
	}{
		{chain(16), api.OK},
		{times(square(), square()), api.OK},
		{chain(17), api.ErrMany},
		{times(chain(3), chain(6)), api.ErrMany},
		{chain(40), api.ErrMany},
	} {
		if got, err := Valid(c.l, implies(v(0), v(0))); err != c.want || got != (c.want == api.OK) {
			t.Errorf("Valid of %d elements: %v, error %d, want error %d", c.l.N, got, err, c.want)
		}
		// That there are too many comes behind what is wrong with the formula.
		for _, f := range wrong {
			if got, err := Valid(c.l, f.f); err != f.want || got {
				t.Errorf("Valid of a wrong formula in %d elements: %v, error %d, want %d", c.l.N, got, err, f.want)
			}
		}
	}
}

func TestR2RegularAndBoolean(t *testing.T) {
	for _, c := range []struct {
		name    string
		l       api.Lattice
		want    []int
		boolean bool
	}{
		{"one element", chain(1), []int{0}, true},
		{"two", chain(2), []int{0, 1}, true},
		{"three", chain(3), []int{0, 2}, false},
		{"the greatest chain", chain(40), []int{0, 39}, false},
		{"a square", square(), []int{0, 1, 2, 3}, true},
		{"a cube", cube(), []int{0, 1, 2, 3, 4, 5, 6, 7}, true},
		{"a fork", fork(), []int{0, 1, 2, 4}, false},
		{"two chains", times(chain(3), chain(3)), []int{0, 2, 6, 8}, false},
		{"a square under one", samples.SetLattice([]int{0, 1, 2, 3, 7}), []int{0, 1, 2, 4}, false},
		{"a square above one", samples.SetLattice([]int{0, 1, 3, 5, 7}), []int{0, 4}, false},
	} {
		if got, err := Regular(c.l); err != api.OK || !slices.Equal(got, c.want) {
			t.Errorf("%s: %v, error %d, want %v", c.name, got, err, c.want)
		}
		if got, err := Boolean(c.l); err != api.OK || got != c.boolean {
			t.Errorf("%s: %v, error %d", c.name, got, err)
		}
	}
}

func TestR2RegularAndBooleanByTheirWords(t *testing.T) {
	met := map[bool]int{}
	for _, l := range tried() {
		table := plainTable(t, l)
		least, _ := ends(l)
		var want []int
		for x := range l.N {
			if table[table[x][least]][least] == x {
				want = append(want, x)
			}
		}
		if got, err := Regular(l); err != api.OK || !slices.Equal(got, want) {
			t.Fatalf("Regular(%v) = %v, error %d, want %v", l, got, err, want)
		}
		if got, err := Boolean(l); err != api.OK || got != (len(want) == l.N) {
			t.Fatalf("Boolean(%v) = %v, error %d", l, got, err)
		}
		met[len(want) == l.N]++
	}
	if met[true] < 8 || met[false] < 100 {
		t.Errorf("too few were asked: %v", met)
	}
}

func TestR4MeetAndImplies(t *testing.T) {
	for _, l := range tried() {
		if l.N > 12 {
			continue
		}
		for y := range l.N {
			for z := range l.N {
				implied, err := Implies(l, y, z)
				for x := range l.N {
					if err != api.OK || isUpTo(l, l.Meet[x][y], z) != isUpTo(l, x, implied) {
						t.Fatalf("%v: %d, %d and %d, which imply %d, error %d", l, x, y, z, implied, err)
					}
				}
			}
		}
	}
}

func TestR4WhatIsSoInTwoElementsIsNotNotSo(t *testing.T) {
	draw := new(samples.Draw)
	lattices := few()
	so, less := 0, 0
	for _, f := range someFormulas(300) {
		valid, err := Valid(chain(2), f)
		if err != api.OK {
			t.Fatalf("Valid(%v): error %d", f, err)
		}
		for range 4 {
			l := lattices[draw.Next(len(lattices))]
			plain, _ := Valid(l, f)
			got, err := Valid(l, not(not(f)))
			if err != api.OK || got != (valid || l.N == 1) {
				t.Fatalf("%v is %v in two elements, but not not in %v: %v, error %d", f, valid, l, got, err)
			}
			if got {
				so++
			}
			if got && !plain {
				less++
			}
		}
	}
	if so < 1000 || less < 300 {
		t.Errorf("only %d were so, of these %d not as they are", so, less)
	}
}

func TestR4RegularElementsAreClosed(t *testing.T) {
	for _, l := range tried() {
		regular, _ := Regular(l)
		for _, x := range regular {
			for i, y := range regular {
				if l.N > 16 && i > 3 {
					break
				}
				implied, err := Implies(l, x, y)
				if err != api.OK || !slices.Contains(regular, implied) || !slices.Contains(regular, l.Meet[x][y]) {
					t.Fatalf("%v: of %v %d and %d imply %d, error %d", l, regular, x, y, implied, err)
				}
			}
		}
	}
}

func TestR4BooleanJustIfEachHasOneOther(t *testing.T) {
	for _, l := range tried() {
		want := true
		for x := range l.N {
			others, err := lattice.Others(l, x)
			want = want && err == api.OK && len(others) == 1
		}
		if got, err := Boolean(l); err != api.OK || got != want {
			t.Fatalf("Boolean(%v) = %v, error %d", l, got, err)
		}
	}
}

// roomyFormula: the same formula, its Kids with spare room behind them, in which formulas stand that must stay.
func roomyFormula(f api.Formula) api.Formula {
	kids := make([]api.Formula, 0, len(f.Kids)+2)
	for _, kid := range f.Kids {
		kids = append(kids, roomyFormula(kid))
	}
	f.Kids = append(kids, v(7), v(8))[:len(kids)]
	return f
}

// hasRoom tells whether all of that is as it was.
func hasRoom(f api.Formula) bool {
	behind := f.Kids[len(f.Kids):cap(f.Kids)]
	is := len(behind) == 2 && reflect.DeepEqual(behind, []api.Formula{v(7), v(8)})
	for _, kid := range f.Kids {
		is = is && hasRoom(kid)
	}
	return is
}

func TestP2P3OnlyReadAndTheSameEachTime(t *testing.T) {
	f := implies(and(v(0), no()), or(v(1), not(v(2))))
	roomy := roomyFormula(f)
	for _, right := range []api.Lattice{chain(1), chain(9), fork(), cube(), times(chain(5), chain(8))} {
		l, rooms := samples.RoomyLattice(right)
		before := make([][]int, len(rooms))
		for i, room := range rooms {
			before[i] = slices.Clone(room)
		}
		vars, room := samples.Roomy(0, right.N-1, right.N/2)
		rooms = append(rooms, room)
		before = append(before, slices.Clone(room))
		value, _ := Value(right, f, vars)
		valid, _ := Valid(right, f)
		regular, _ := Regular(right)
		for range 2 {
			again, _ := Value(l, roomy, vars)
			is, _ := Valid(l, roomy)
			list, _ := Regular(l)
			if again != value || is != valid || !slices.Equal(list, regular) {
				t.Errorf("%v: value %d, valid %v, regular %v", right, again, is, list)
			}
			boolean, _ := Boolean(l)
			if again, _ := Boolean(right); boolean != again {
				t.Errorf("Boolean(%v) = %v and %v", right, boolean, again)
			}
			implied, _ := Implies(l, l.N-1, l.N/2)
			if again, _ := Implies(right, l.N-1, l.N/2); implied != again {
				t.Errorf("Implies of %v: %d and %d", right, implied, again)
			}
			if samples.Shared(append(rooms, list)...) {
				t.Errorf("the answers of %v share memory", right)
			}
			samples.Spoil(list)
		}
		if !reflect.DeepEqual(rooms, before) || !samples.HasRoom(l) || !hasRoom(roomy) {
			t.Errorf("%v was changed", right)
		}
	}
}
