package heyting

import (
	"math"
	"slices"
	"testing"

	"hasse/api"
	"hasse/samples"
)

// Formulas in short.
func v(n int) api.Formula { return api.Formula{Kind: api.FormulaVar, Var: n} }

func no() api.Formula { return api.Formula{Kind: api.FormulaFalse} }

func two(kind int, a, b api.Formula) api.Formula {
	return api.Formula{Kind: kind, Kids: []api.Formula{a, b}}
}

func and(a, b api.Formula) api.Formula     { return two(api.FormulaAnd, a, b) }
func or(a, b api.Formula) api.Formula      { return two(api.FormulaOr, a, b) }
func implies(a, b api.Formula) api.Formula { return two(api.FormulaImplies, a, b) }
func not(a api.Formula) api.Formula        { return implies(a, no()) }

// count of formulas in one another.
func count(f api.Formula) int {
	all := 1
	for _, kid := range f.Kids {
		all += count(kid)
	}
	return all
}

// drawn formula with so many pairs of formulas in it, the most being 14, so that there are 29 in one another.
func drawn(draw *samples.Draw, pairs int) api.Formula {
	if pairs == 0 {
		if draw.Next(5) == 0 {
			return no()
		}
		return v(draw.Next(api.MaxVars))
	}
	left := draw.Next(pairs)
	return two(api.FormulaAnd+draw.Next(3), drawn(draw, left), drawn(draw, pairs-1-left))
}

// drawnFormulas with up to so many pairs each.
func drawnFormulas(count, pairs int) []api.Formula {
	draw := new(samples.Draw)
	var formulas []api.Formula
	for i := range count {
		formulas = append(formulas, drawn(draw, i%(pairs+1)))
	}
	return formulas
}

// smallFormulas: all with up to one pair, and all of their pairs with something small.
func smallFormulas() []api.Formula {
	single := []api.Formula{no(), v(0), v(1), v(2)}
	formulas := slices.Clone(single)
	var pairs []api.Formula
	for kind := api.FormulaAnd; kind <= api.FormulaImplies; kind++ {
		for _, a := range single {
			for _, b := range single {
				pairs = append(pairs, two(kind, a, b))
			}
		}
	}
	formulas = append(formulas, pairs...)
	for kind := api.FormulaAnd; kind <= api.FormulaImplies; kind++ {
		for _, a := range pairs {
			for _, b := range single {
				formulas = append(formulas, two(kind, a, b), two(kind, b, a))
			}
		}
	}
	return formulas
}

// nested formulas, as many as are told, each the only one in the one around it.
func nested(count int) api.Formula {
	f := api.Formula{Kind: api.FormulaAnd}
	for range count - 1 {
		f = api.Formula{Kind: api.FormulaAnd, Kids: []api.Formula{f}}
	}
	return f
}

// endless: a formula whose Kids are in themselves.
func endless(kind int) api.Formula {
	kids := make([]api.Formula, 2)
	for i := range kids {
		kids[i] = api.Formula{Kind: kind, Kids: kids}
	}
	return kids[0]
}

// stairs: so many pairs, each the first one, or the second one, in the next one.
func stairs(kind, pairs int, first bool) api.Formula {
	f := v(0)
	for i := range pairs {
		if first {
			f = two(kind, f, v(i%3))
		} else {
			f = two(kind, v(i%3), f)
		}
	}
	return f
}

type wrongFormula struct {
	f    api.Formula
	want api.Errno
}

// wrongFormulas: each thing that can be wrong, and where several are, the one that is told.
func wrongFormulas() []wrongFormula {
	none := api.Formula{}
	single := and(v(0), v(1))
	single.Kids = single.Kids[:1]
	three := api.Formula{Kind: api.FormulaOr, Kids: []api.Formula{v(0), v(1), v(2)}}
	named := implies(v(0), v(1))
	named.Var = 1
	parent := api.Formula{Kind: api.FormulaVar, Kids: []api.Formula{v(0), v(0)}}
	far := v(3)
	wrong := []wrongFormula{
		{stairs(api.FormulaAnd, 15, true), api.ErrMany},
		{stairs(api.FormulaImplies, 15, false), api.ErrMany},
		{or(stairs(api.FormulaAnd, 7, true), stairs(api.FormulaOr, 7, false)), api.ErrMany},
		{api.Formula{Kids: make([]api.Formula, 30)}, api.ErrMany},
		{api.Formula{Kind: api.FormulaAnd, Kids: make([]api.Formula, 30)}, api.ErrMany},
		{api.Formula{Kind: api.FormulaAnd, Kids: make([]api.Formula, 1<<20)}, api.ErrMany},
		{nested(31), api.ErrMany},
		{nested(60000), api.ErrMany},
		{and(nested(15), nested(15)), api.ErrMany},
		{endless(api.FormulaAnd), api.ErrMany},
		{endless(api.FormulaFalse), api.ErrMany},
		{endless(0), api.ErrMany},
		{and(none, stairs(api.FormulaAnd, 14, true)), api.ErrMany},
		{api.Formula{Kids: make([]api.Formula, 29)}, api.ErrKind},
		{api.Formula{Kind: api.FormulaAnd, Kids: make([]api.Formula, 29)}, api.ErrForm},
		{nested(30), api.ErrForm},
		{and(nested(14), nested(15)), api.ErrForm},
		{none, api.ErrKind},
		{api.Formula{Kind: 6}, api.ErrKind},
		{api.Formula{Kind: -1, Var: 7}, api.ErrKind},
		{api.Formula{Kind: math.MaxInt, Kids: []api.Formula{none}}, api.ErrKind},
		{api.Formula{Kind: math.MinInt, Var: -1, Kids: []api.Formula{far, far}}, api.ErrKind},
		{single, api.ErrForm},
		{three, api.ErrForm},
		{parent, api.ErrForm},
		{api.Formula{Kind: api.FormulaFalse, Kids: []api.Formula{no()}}, api.ErrForm},
		{api.Formula{Kind: api.FormulaFalse, Kids: []api.Formula{no(), no()}}, api.ErrForm},
		{api.Formula{Kind: api.FormulaVar, Kids: []api.Formula{v(0)}}, api.ErrForm},
		{api.Formula{Kind: api.FormulaVar, Var: 3, Kids: []api.Formula{v(0)}}, api.ErrForm},
		{api.Formula{Kind: api.FormulaFalse, Var: 1, Kids: []api.Formula{none}}, api.ErrForm},
		{api.Formula{Kind: api.FormulaImplies, Var: 1}, api.ErrForm},
		{api.Formula{Kind: api.FormulaAnd}, api.ErrForm},
		{api.Formula{Kind: api.FormulaOr}, api.ErrForm},
		{api.Formula{Kind: api.FormulaImplies}, api.ErrForm},
		{api.Formula{Kind: api.FormulaAnd, Kids: []api.Formula{none}}, api.ErrForm},
		{far, api.ErrRange},
		{v(-1), api.ErrRange},
		{v(math.MaxInt), api.ErrRange},
		{v(math.MinInt), api.ErrRange},
		{api.Formula{Kind: api.FormulaFalse, Var: 1}, api.ErrRange},
		{api.Formula{Kind: api.FormulaFalse, Var: -1}, api.ErrRange},
		{named, api.ErrRange},
		// One ahead of its Kids, and these in their order.
		{api.Formula{Kind: api.FormulaAnd, Var: 2, Kids: []api.Formula{none, single}}, api.ErrRange},
		{and(far, none), api.ErrRange},
		{and(none, far), api.ErrKind},
		{and(single, none), api.ErrForm},
		{or(v(0), and(far, none)), api.ErrRange},
		{or(and(v(0), far), none), api.ErrRange},
		{implies(v(1), or(v(2), implies(no(), single))), api.ErrForm},
	}
	for _, w := range []wrongFormula{{none, api.ErrKind}, {three, api.ErrForm}, {far, api.ErrRange}, {named, api.ErrRange}, {parent, api.ErrForm}} {
		for kind := api.FormulaAnd; kind <= api.FormulaImplies; kind++ {
			wrong = append(wrong, wrongFormula{two(kind, v(0), w.f), w.want}, wrongFormula{two(kind, w.f, no()), w.want}, wrongFormula{not(two(kind, v(2), w.f)), w.want})
		}
	}
	return wrong
}

func TestR1Check(t *testing.T) {
	for _, f := range append(smallFormulas(), drawnFormulas(500, 14)...) {
		if err := Check(f); err != api.OK {
			t.Fatalf("Check(%v) = %d, of %d", f, err, count(f))
		}
	}
	right := []api.Formula{{Kind: api.FormulaFalse, Kids: []api.Formula{}}, {Kind: api.FormulaVar, Var: 2, Kids: []api.Formula{}}}
	for kind := api.FormulaAnd; kind <= api.FormulaImplies; kind++ {
		right = append(right, stairs(kind, 14, true), stairs(kind, 14, false), two(kind, stairs(kind, 6, true), stairs(kind, 7, false)))
	}
	for _, f := range right {
		if err := Check(f); err != api.OK {
			t.Errorf("Check(%v) = %d", f, err)
		}
	}
	for i, w := range wrongFormulas() {
		if err := Check(w.f); err != w.want {
			t.Errorf("wrong formula %d: error %d, want %d", i, err, w.want)
		}
	}
}

func TestR1CheckCountsEachTime(t *testing.T) {
	// A formula is twice in the next one, and so on: there are 1, 3, 7, 15, 31 of them, and soon more than could ever be gone through.
	f := v(0)
	for times := range 60 {
		want := api.OK
		if times >= 4 {
			want = api.ErrMany
		}
		if err := Check(f); err != want {
			t.Errorf("%d times: error %d, want %d", times, err, want)
		}
		f = or(f, f)
	}
}
