// Package order: finite orders: see doc/01-order.md.
package order

import (
	"hasse/api"
	"hasse/sets"
)

// Check tells what is wrong with an order.
func Check(o api.Order) api.Errno {
	if !sets.IsCount(o.N) {
		return api.ErrMany
	}
	if len(o.Below) != o.N {
		return api.ErrForm
	}
	for _, set := range o.Below {
		if !sets.Within(set, o.N) {
			return api.ErrRange
		}
	}
	if !isOrdered(o.Below) {
		return api.ErrState
	}
	return api.OK
}

// Make an order of pairs.
func Make(n int, pairs [][2]int) (api.Order, api.Errno) {
	if !sets.IsCount(n) {
		return api.Order{}, api.ErrMany
	}
	below := make([]int, n)
	for _, pair := range pairs {
		lower, upper := pair[0], pair[1]
		if !sets.IsPoint(lower, n) || !sets.IsPoint(upper, n) {
			return api.Order{}, api.ErrRange
		}
		below[upper] |= 1 << lower
	}
	reach(below)
	if !isOrdered(below) {
		return api.Order{}, api.ErrState
	}
	return api.Order{N: n, Below: below}, api.OK
}

// Covers of an order.
func Covers(o api.Order) ([][2]int, api.Errno) {
	if err := Check(o); err != api.OK {
		return nil, err
	}
	above := turn(o.Below)
	var covers [][2]int
	for lower := range o.N {
		for upper := range o.N {
			if sets.Has(o.Below[upper], lower) && above[lower]&o.Below[upper] == 0 {
				covers = append(covers, [2]int{lower, upper})
			}
		}
	}
	return covers, api.OK
}

// Ends: the least and the greatest points.
func Ends(o api.Order) (int, int, api.Errno) {
	if err := Check(o); err != api.OK {
		return 0, 0, err
	}
	return bare(o.Below), bare(turn(o.Below)), api.OK
}

// Dual of an order.
func Dual(o api.Order) (api.Order, api.Errno) {
	if err := Check(o); err != api.OK {
		return api.Order{}, err
	}
	return api.Order{N: o.N, Below: turn(o.Below)}, api.OK
}

// Part of an order.
func Part(o api.Order, set int) (api.Order, api.Errno) {
	if err := Check(o); err != api.OK {
		return api.Order{}, err
	}
	if !sets.Within(set, o.N) {
		return api.Order{}, api.ErrRange
	}
	points := sets.Members(set)
	below := make([]int, len(points))
	for i, upper := range points {
		for k, lower := range points {
			if sets.Has(o.Below[upper], lower) {
				below[i] |= 1 << k
			}
		}
	}
	return api.Order{N: len(points), Below: below}, api.OK
}

// Beside: two orders that know nothing of one another.
func Beside(a, b api.Order) (api.Order, api.Errno) {
	if err := checkAll(a, b); err != api.OK {
		return api.Order{}, err
	}
	return join(a, b, 0)
}

// Over: b's points above all of a's.
func Over(a, b api.Order) (api.Order, api.Errno) {
	if err := checkAll(a, b); err != api.OK {
		return api.Order{}, err
	}
	return join(a, b, sets.All(a.N))
}

// Times: pairs of points.
func Times(a, b api.Order) (api.Order, api.Errno) {
	if err := checkAll(a, b); err != api.OK {
		return api.Order{}, err
	}
	n := a.N * b.N
	if !sets.IsCount(n) {
		return api.Order{}, api.ErrMany
	}
	below := make([]int, 0, n)
	for x := range a.N {
		for y := range b.N {
			pairs := pairsUpTo(a, b, x, y)
			below = append(below, pairs&^(1<<(x*b.N+y)))
		}
	}
	return api.Order{N: n, Below: below}, api.OK
}

// Ideals of an order.
func Ideals(o api.Order) ([]int, api.Errno) {
	if err := Check(o); err != api.OK {
		return nil, err
	}
	var ideals []int
every:
	for set := range 1 << o.N {
		for point, lower := range o.Below {
			if sets.Has(set, point) && lower&^set != 0 {
				continue every
			}
		}
		ideals = append(ideals, set)
	}
	return ideals, api.OK
}

// checkAll looks at orders from the first on, so that of several wrong ones the first is told of.
func checkAll(orders ...api.Order) api.Errno {
	for _, o := range orders {
		if err := Check(o); err != api.OK {
			return err
		}
	}
	return api.OK
}

// isOrdered tells whether sets of points are those below each point of an order.
func isOrdered(below []int) bool {
	for upper, set := range below {
		if sets.Has(set, upper) {
			return false
		}
		for point, lower := range below {
			if sets.Has(set, point) && lower&^set != 0 {
				return false
			}
		}
	}
	return true
}

// reach adds what is come to by several steps. One round is enough, for the point gone through is that of the outer loop (Warshall).
func reach(below []int) {
	for through, lower := range below {
		for upper, set := range below {
			if sets.Has(set, through) {
				below[upper] |= lower
			}
		}
	}
}

// turn tells of each point those above it.
func turn(below []int) []int {
	above := make([]int, len(below))
	for upper, set := range below {
		for lower := range above {
			if sets.Has(set, lower) {
				above[lower] |= 1 << upper
			}
		}
	}
	return above
}

// bare is the set of points whose own set is empty.
func bare(own []int) int {
	points := 0
	for point, set := range own {
		if set == 0 {
			points |= 1 << point
		}
	}
	return points
}

// join puts b's points behind a's, each of them above the points of a that are in under.
func join(a, b api.Order, under int) (api.Order, api.Errno) {
	n := a.N + b.N
	if !sets.IsCount(n) {
		return api.Order{}, api.ErrMany
	}
	below := make([]int, 0, n)
	below = append(below, a.Below...)
	for _, set := range b.Below {
		below = append(below, set<<a.N|under)
	}
	return api.Order{N: n, Below: below}, api.OK
}

// pairsUpTo is the set of pairs, each of whose points is below x or y, or the same: (x, y) is one of them.
func pairsUpTo(a, b api.Order, x, y int) int {
	row := sets.UpTo(b, y)
	pairs := 0
	for _, point := range sets.Members(sets.UpTo(a, x)) {
		pairs |= row << (point * b.N)
	}
	return pairs
}
