package extend

import (
	"slices"

	"hasse/api"
	"hasse/sets"
)

// rows of an order, not one by one, but by the sets of points that can stand at their beginning.
type rows struct {
	need    []int // of each point which ones must stand ahead of it
	endings []int // of each set in how many ways the others can go behind it
}

// layOut tells of an order's rows in which of each pair that is known, too, the first point stands ahead of the second. Pairs that contradict the order, or one another, leave no row: their points wait for one another.
func layOut(o api.Order, known ...[2]int) rows {
	r := rows{need: slices.Clone(o.Below), endings: make([]int, 1<<o.N)}
	for _, pair := range known {
		r.need[pair[1]] |= 1 << pair[0]
	}
	r.endings[sets.All(o.N)] = 1
	// A set with one point more is a greater number, so it is known by then.
	for placed := sets.All(o.N) - 1; placed >= 0; placed-- {
		for point := range o.N {
			r.endings[placed] += r.goingOn(placed, point)
		}
	}
	return r
}

// count of all rows.
func (r rows) count() int { return r.endings[0] }

// mayFollow tells whether a point can stand next behind a set.
func (r rows) mayFollow(placed, point int) bool {
	return !sets.Has(placed, point) && sets.HasAll(placed, r.need[point])
}

// goingOn is in how many ways a row goes on behind a set with a point next.
func (r rows) goingOn(placed, point int) int {
	if !r.mayFollow(placed, point) {
		return 0
	}
	return r.endings[placed|1<<point]
}

// has tells whether a list is one of the rows.
func (r rows) has(list []int) bool {
	if len(list) != len(r.need) {
		return false
	}
	placed := 0
	for _, point := range list {
		if !sets.IsPoint(point, len(r.need)) || !r.mayFollow(placed, point) {
			return false
		}
		placed |= 1 << point
	}
	return true
}
