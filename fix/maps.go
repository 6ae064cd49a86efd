package fix

import (
	"iter"

	"hasse/api"
	"hasse/sets"
	"hasse/tables"
)

// upTo tells whether one is another one or below it, so that orders and lattices are asked alike.
type upTo func(lower, upper int) bool

func inOrder(o api.Order) upTo {
	return func(lower, upper int) bool { return sets.Has(sets.UpTo(o, upper), lower) }
}

func inLattice(l api.Lattice) upTo {
	return func(lower, upper int) bool { return tables.IsUpTo(l, lower, upper) }
}

// isMonotone tells it of a map, or of the beginning of one: of the points that have their numbers.
func isMonotone(f []int, from, to upTo) bool {
	for upper := range f {
		for lower := range f {
			if from(lower, upper) && !to(f[lower], f[upper]) {
				return false
			}
		}
	}
	return true
}

// allMonotone maps from one order to another one, as lists are compared. All lie in the same memory, one after the other, so they are to be looked at on the spot.
func allMonotone(a, b api.Order) iter.Seq[[]int] {
	return func(yield func([]int) bool) {
		from, to := inOrder(a), inOrder(b)
		var goOn func(f []int) bool
		goOn = func(f []int) bool {
			if len(f) == a.N {
				return yield(f)
			}
			for point := range b.N {
				longer := append(f, point)
				if isMonotone(longer, from, to) && !goOn(longer) {
					return false
				}
			}
			return true
		}
		goOn(make([]int, 0, a.N))
	}
}

// fixed: the set of the points that go to themselves.
func fixed(f []int) int {
	set := 0
	for point, image := range f {
		if image == point {
			set |= 1 << point
		}
	}
	return set
}
