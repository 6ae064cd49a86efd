package heyting

import (
	"math"
	"slices"
	"testing"

	"hasse/api"
	"hasse/samples"
)

// below tells an order by its sets.
func below(sets ...int) api.Order { return samples.Below(sets...) }

// triedOrders: small ones, all of them, and great ones.
func triedOrders() []api.Order {
	orders := append(samples.SmallOrders(), samples.GreatOrders(80)...)
	return append(orders, samples.Apart(), samples.Rising(), samples.Falling(), samples.Storeys())
}

// plainForces tells by the words of R3 of each point whether it forces a formula.
func plainForces(o api.Order, vars []int, f api.Formula) []bool {
	var kids [][]bool
	for _, kid := range f.Kids {
		kids = append(kids, plainForces(o, vars, kid))
	}
	forces := make([]bool, o.N)
	for p := range o.N {
		switch f.Kind {
		case api.FormulaVar:
			forces[p] = vars[f.Var]>>p%2 == 1
		case api.FormulaAnd:
			forces[p] = kids[0][p] && kids[1][p]
		case api.FormulaOr:
			forces[p] = kids[0][p] || kids[1][p]
		case api.FormulaImplies:
			forces[p] = true
			for q := range o.N {
				if (q == p || samples.IsBelow(o, p, q)) && kids[0][q] && !kids[1][q] {
					forces[p] = false
				}
			}
		}
	}
	return forces
}

func TestR3Forces(t *testing.T) {
	x, y := v(0), v(1)
	fork := below(0, 1, 1)
	for _, c := range []struct {
		name string
		o    api.Order
		vars []int
		f    api.Formula
		want []bool
	}{
		{"a variable", fork, []int{2, 0, 0}, x, []bool{false, true, false}},
		{"another variable", fork, []int{2, 0, 7}, v(2), []bool{true, true, true}},
		{"false", fork, []int{7, 7, 7}, no(), []bool{false, false, false}},
		{"not", fork, []int{2, 0, 0}, not(x), []bool{false, false, true}},
		{"not, where it is nowhere", fork, []int{0, 0, 0}, not(x), []bool{true, true, true}},
		{"not not", fork, []int{6, 0, 0}, not(not(x)), []bool{true, true, true}},
		{"this or not", fork, []int{2, 0, 0}, or(x, not(x)), []bool{false, true, true}},
		{"and", fork, []int{2, 6, 0}, and(x, y), []bool{false, true, false}},
		{"or", fork, []int{2, 4, 0}, or(x, y), []bool{false, true, true}},
		{"implies", fork, []int{2, 6, 0}, implies(x, y), []bool{true, true, true}},
		{"implies, back", fork, []int{2, 6, 0}, implies(y, x), []bool{false, true, false}},
		{"one way or the other", fork, []int{2, 4, 0}, or(implies(x, y), implies(y, x)), []bool{false, true, true}},
		{"one point", below(0), []int{1, 0, 0}, implies(x, y), []bool{false}},
		{"apart", below(0, 0), []int{1, 2, 0}, implies(x, y), []bool{false, true}},
		{"a chain, from its top", samples.Falling(), []int{1, 0, 0}, or(x, not(x)), []bool{true, false, false, false, false, false, false, false, false, false}},
		{"a chain, not not", samples.Rising(), []int{512, 0, 0}, not(not(x)), slices.Repeat([]bool{true}, 10)},
	} {
		for p, want := range c.want {
			if got, err := Forces(c.o, c.vars, p, c.f); err != api.OK || got != want {
				t.Errorf("%s: point %d: %v, error %d", c.name, p, got, err)
			}
		}
	}
}

func TestR3ForcesByItsWords(t *testing.T) {
	draw := new(samples.Draw)
	formulas := append(smallFormulas(), drawnFormulas(300, 14)...)
	met := map[bool]int{}
	for _, o := range triedOrders() {
		sets := upSets(o)
		for range 30 {
			f := formulas[draw.Next(len(formulas))]
			vars := []int{sets[draw.Next(len(sets))], sets[draw.Next(len(sets))], sets[draw.Next(len(sets))]}
			for p, want := range plainForces(o, vars, f) {
				if got, err := Forces(o, vars, p, f); err != api.OK || got != want {
					t.Fatalf("Forces(%v, %v, %d, %v) = %v, error %d", o, vars, p, f, got, err)
				}
				met[want]++
			}
		}
	}
	if met[true] < 5000 || met[false] < 5000 {
		t.Errorf("too few were asked: %v", met)
	}
}

// wrongVars of a chain of three points, 0 below 1 below 2, and of its point p.
type wrongVars struct {
	vars []int
	p    int
	want api.Errno
}

func wrongsOfAChain() []wrongVars {
	wrong := []wrongVars{
		{nil, 0, api.ErrForm},
		{[]int{}, 0, api.ErrForm},
		{[]int{0, 0}, 0, api.ErrForm},
		{[]int{0, 0, 0, 0}, 0, api.ErrForm},
		{[]int{-1, 8}, 0, api.ErrForm},
		{[]int{1, 1}, 3, api.ErrForm},
		{[]int{0, 0, 0}, 3, api.ErrRange},
		{[]int{0, 0, 0}, -1, api.ErrRange},
		{[]int{0, 0, 0}, math.MaxInt, api.ErrRange},
		{[]int{0, 0, 0}, math.MinInt, api.ErrRange},
		{[]int{1, 2, 3}, 3, api.ErrRange},
		{[]int{1, 2, 8}, 0, api.ErrRange},
	}
	for place := range api.MaxVars {
		for _, set := range []int{-1, 8, 15, math.MaxInt, math.MinInt} {
			vars := []int{0, 4, 7}
			vars[place] = set
			wrong = append(wrong, wrongVars{vars, 0, api.ErrRange}, wrongVars{vars, 3, api.ErrRange})
		}
		for _, set := range []int{1, 2, 3, 5} {
			vars := []int{0, 4, 7}
			vars[place] = set
			wrong = append(wrong, wrongVars{vars, 0, api.ErrState}, wrongVars{vars, 2, api.ErrState})
		}
	}
	return wrong
}

func TestR3Errors(t *testing.T) {
	chain, wrong := below(0, 1, 3), wrongFormulas()
	for _, w := range wrongsOfAChain() {
		if got, err := Forces(chain, w.vars, w.p, not(no())); err != w.want || got {
			t.Errorf("Forces(%v, %d) = %v, error %d, want %d", w.vars, w.p, got, err, w.want)
		}
		for _, f := range wrong {
			if got, err := Forces(chain, w.vars, w.p, f.f); err != f.want || got {
				t.Errorf("Forces(%v, %d) of a wrong formula: %v, error %d, want %d", w.vars, w.p, got, err, f.want)
			}
		}
	}
	for _, f := range wrong {
		if got, err := Forces(chain, []int{0, 0, 0}, 0, f.f); err != f.want || got {
			t.Errorf("Forces of a wrong formula: %v, error %d, want %d", got, err, f.want)
		}
	}
	for _, p := range []int{0, -1, 1} {
		if got, err := Forces(below(), []int{0, 0, 0}, p, not(no())); err != api.ErrRange || got {
			t.Errorf("Forces of no points, %d: %v, error %d", p, got, err)
		}
	}
}

func TestR3WhichSetsMayBe(t *testing.T) {
	for _, o := range samples.SmallOrders() {
		if o.N == 0 {
			continue
		}
		right := upSets(o)
		for set := range 1 << o.N {
			want := api.ErrState
			if slices.Contains(right, set) {
				want = api.OK
			}
			for place := range api.MaxVars {
				vars := []int{0, 0, 0}
				vars[place] = set
				if got, err := Forces(o, vars, 0, not(no())); err != want || got != (want == api.OK) {
					t.Fatalf("Forces(%v, %v) = %v, error %d, want error %d", o, vars, got, err, want)
				}
			}
		}
	}
}

func TestR3A1CheckIsToldFirst(t *testing.T) {
	for _, w := range samples.WrongOrders() {
		for _, f := range []api.Formula{no(), {}, endless(api.FormulaAnd)} {
			for _, vars := range [][]int{{0, 0, 0}, nil, {-1, 0, 1 << 20}} {
				for _, p := range []int{0, -1, math.MaxInt} {
					if got, err := Forces(w.Order, vars, p, f); err != w.Err || got {
						t.Errorf("Forces(%v, %v, %d) = %v, error %d, want error %d", w.Order, vars, p, got, err, w.Err)
					}
				}
			}
		}
	}
}

func TestR4PointsForceWhatTheyAreInTheValueOf(t *testing.T) {
	draw := new(samples.Draw)
	formulas := append(smallFormulas(), drawnFormulas(300, 14)...)
	tried := 0
	for _, o := range triedOrders() {
		sets := upSets(o)
		if len(sets) > api.MaxLattice {
			continue
		}
		tried++
		l := samples.SetLattice(sets)
		for range 20 {
			f := formulas[draw.Next(len(formulas))]
			places := samples.DrawnMap(api.MaxVars, l.N, draw)
			value, err := Value(l, f, places)
			if err != api.OK {
				t.Fatalf("Value(%v, %v, %v): error %d", l, f, places, err)
			}
			vars := []int{sets[places[0]], sets[places[1]], sets[places[2]]}
			for p := range o.N {
				if got, err := Forces(o, vars, p, f); err != api.OK || got != (sets[value]>>p%2 == 1) {
					t.Fatalf("Forces(%v, %v, %d, %v) = %v, error %d, but the value is %d", o, vars, p, f, got, err, sets[value])
				}
			}
		}
	}
	if tried < 250 {
		t.Errorf("only %d orders were tried", tried)
	}
}

func TestP2P3ForcesOnlyReads(t *testing.T) {
	f := implies(and(v(0), no()), or(v(1), not(v(2))))
	roomy := roomyFormula(f)
	for _, o := range []api.Order{below(0), below(0, 1, 0), samples.Falling(), samples.Storeys()} {
		sets := upSets(o)
		list, behind := samples.Roomy(o.Below...)
		vars, room := samples.Roomy(sets[0], sets[len(sets)/2], sets[len(sets)-1])
		before := [][]int{slices.Clone(behind), slices.Clone(room)}
		want := plainForces(o, vars, f)
		for range 2 {
			for p := range o.N {
				if got, err := Forces(api.Order{N: o.N, Below: list}, vars, p, roomy); err != api.OK || got != want[p] {
					t.Errorf("Forces(%v, %v, %d) = %v, error %d", o, vars, p, got, err)
				}
			}
		}
		if !slices.Equal(behind, before[0]) || !slices.Equal(room, before[1]) || !hasRoom(roomy) {
			t.Errorf("%v was changed", o)
		}
	}
}
