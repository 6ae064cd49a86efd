package order

import "hasse/api"

// isCount tells whether an order may have n points.
func isCount(n int) bool { return n >= 0 && n <= api.MaxPoints }

// isPoint tells whether a number is one of n points.
func isPoint(point, n int) bool { return point >= 0 && point < n }

// isSet tells whether all that a set has is among n points.
func isSet(set, n int) bool { return set >= 0 && set <= all(n) }

// all is the set of n points.
func all(n int) int { return 1<<n - 1 }

// has tells whether a point is in a set.
func has(set, point int) bool { return set>>point&1 == 1 }

// members of a set, rising.
func members(set int) []int {
	var points []int
	for point := range api.MaxPoints {
		if has(set, point) {
			points = append(points, point)
		}
	}
	return points
}
