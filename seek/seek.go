// Package seek: goes through all lists of a few points, as lists are compared, and finds the first one of which something is so. What is so, the layers tell.
package seek

// Three of the numbers from 0 on below n, the same one more than once, too.
func Three(n int, so func(x, y, z int) bool) ([]int, bool) {
	for x := range n {
		for y := range n {
			for z := range n {
				if so(x, y, z) {
					return []int{x, y, z}, true
				}
			}
		}
	}
	return nil, false
}

// Four of them.
func Four(n int, so func(a, b, c, d int) bool) ([]int, bool) {
	for a := range n {
		rest, found := Three(n, func(b, c, d int) bool { return so(a, b, c, d) })
		if found {
			return append([]int{a}, rest...), true
		}
	}
	return nil, false
}
