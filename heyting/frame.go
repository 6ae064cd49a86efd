package heyting

import (
	"hasse/api"
	"hasse/sets"
)

// frame: an order whose points force formulas. A formula comes to the set of the points that force it.
type frame struct{ api.Order }

func (f frame) least() int { return 0 }

func (f frame) and(x, y int) int { return x & y }

func (f frame) or(x, y int) int { return x | y }

// implies: all points but those that are, or have above them, one in x that is not in y.
func (f frame) implies(x, y int) int {
	set := sets.All(f.N)
	for _, point := range sets.Members(x &^ y) {
		set &^= sets.UpTo(f.Order, point)
	}
	return set
}

// checkSets of variables, and a point, that are handed in with an order.
func checkSets(o api.Order, vars []int, p int) api.Errno {
	// A set is a number as an element is one: there are 1<<o.N of them.
	if err := sets.CheckMap(vars, api.MaxVars, 1<<o.N); err != api.OK {
		return err
	}
	if !sets.IsPoint(p, o.N) {
		return api.ErrRange
	}
	for _, set := range vars {
		if !goesUp(o, set) {
			return api.ErrState
		}
	}
	return api.OK
}

// goesUp tells whether a set has with a point all above it.
func goesUp(o api.Order, set int) bool {
	for point, below := range o.Below {
		if below&set != 0 && !sets.Has(set, point) {
			return false
		}
	}
	return true
}
