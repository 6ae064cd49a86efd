package heyting

import (
	"hasse/api"
	"hasse/sets"
)

// leftOf so many formulas, when one and all that are in it are taken from them; below 0, if they are not enough. It does not look further than that, for a formula whose Kids are in themselves has no end.
func leftOf(many int, f api.Formula) int {
	many--
	for _, kid := range f.Kids {
		if many < 0 {
			break
		}
		many = leftOf(many, kid)
	}
	return many
}

// checkForm of a formula, and then of its Kids.
func checkForm(f api.Formula) api.Errno {
	kids, vars := 0, 1
	switch f.Kind {
	case api.FormulaFalse:
	case api.FormulaVar:
		vars = api.MaxVars
	case api.FormulaAnd, api.FormulaOr, api.FormulaImplies:
		kids = 2
	default:
		return api.ErrKind
	}
	if len(f.Kids) != kids {
		return api.ErrForm
	}
	if !sets.IsPoint(f.Var, vars) {
		return api.ErrRange
	}
	for _, kid := range f.Kids {
		if err := checkForm(kid); err != api.OK {
			return err
		}
	}
	return api.OK
}

// reading says what formulas come to: elements of a lattice, or the sets of points that force them. A formula is gone through alike in both.
type reading interface {
	least() int
	and(x, y int) int
	or(x, y int) int
	implies(x, y int) int
}

// value of a formula that was checked.
func value(r reading, f api.Formula, vars []int) int {
	switch f.Kind {
	case api.FormulaFalse:
		return r.least()
	case api.FormulaVar:
		return vars[f.Var]
	}
	x, y := value(r, f.Kids[0], vars), value(r, f.Kids[1], vars)
	switch f.Kind {
	case api.FormulaAnd:
		return r.and(x, y)
	case api.FormulaOr:
		return r.or(x, y)
	}
	return r.implies(x, y)
}
