package canon

import (
	"iter"
	"slices"

	"hasse/api"
	"hasse/sets"
)

// lists of each of n points once, as lists are compared. All lie in the same memory, one after the other, so they are to be looked at on the spot.
func lists(n int) iter.Seq[[]int] {
	return func(yield func([]int) bool) {
		var goOn func(list []int, left int) bool
		goOn = func(list []int, left int) bool {
			if left == 0 {
				return yield(list)
			}
			for _, point := range sets.Members(left) {
				if !goOn(append(list, point), left&^(1<<point)) {
					return false
				}
			}
			return true
		}
		goOn(make([]int, 0, n), sets.All(n))
	}
}

// renumbered: what is below each point of an order, when what has the place i in a list of all of them is point i.
func renumbered(o api.Order, list []int) []int {
	below := make([]int, len(list))
	for i, upper := range list {
		for k, lower := range list {
			if sets.Has(o.Below[upper], lower) {
				below[i] |= 1 << k
			}
		}
	}
	return below
}

// formOf an order, and the first list by which it has this form.
func formOf(o api.Order) (api.Order, []int) {
	var least, by []int
	for list := range lists(o.N) {
		below := renumbered(o, list)
		if by == nil || slices.Compare(below, least) < 0 {
			least, by = below, slices.Clone(list)
		}
	}
	return api.Order{N: o.N, Below: least}, by
}
