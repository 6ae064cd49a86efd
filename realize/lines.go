package realize

import (
	"iter"

	"hasse/api"
	"hasse/extend"
	"hasse/sets"
)

// pairs of points, as a set: there are few enough for one number.
type pairs uint64

// line is a row with all pairs of a point and one behind it.
type line struct {
	row []int
	has pairs
}

// allRows of an order, as lists are compared.
func allRows(o api.Order) iter.Seq[[]int] {
	return func(yield func([]int) bool) {
		count, _ := extend.Count(o)
		for k := range count {
			row, _ := extend.Nth(o, k)
			if !yield(row) {
				return
			}
		}
	}
}

// lay out all rows of an order, each with its pairs.
func lay(o api.Order) []line {
	var all []line
	for row := range allRows(o) {
		all = append(all, line{row, packed(ahead(row))})
	}
	return all
}

// undecided: the pairs of points that know nothing of one another, either way round. Rows are enough, if they have all of these among them.
func undecided(o api.Order) pairs {
	strange := make([]int, o.N)
	for b := range o.N {
		for a := range o.N {
			if a != b && !sets.Has(o.Below[a], b) && !sets.Has(o.Below[b], a) {
				strange[b] |= 1 << a
			}
		}
	}
	return packed(strange)
}

// packed: of each point a set of others, all of them as pairs of one of these and the point.
func packed(others []int) pairs {
	all := pairs(0)
	for point, set := range others {
		all |= pairs(set) << (point * api.MaxRealize)
	}
	return all
}

// pick one row at least, and at most as many as are told, that have all open pairs among them. One of them has the first open pair, so only such rows are tried next; if no pair is open, any row will do.
func pick(all []line, open pairs, most int) ([][]int, bool) {
	first := open & -open
	for _, l := range all {
		if l.has&first != first {
			continue
		}
		left := open &^ l.has
		if left == 0 {
			return [][]int{l.row}, true
		}
		if most == 1 {
			continue
		}
		if others, found := pick(all, left, most-1); found {
			return append(others, l.row), true
		}
	}
	return nil, false
}
