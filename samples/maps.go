package samples

import (
	"math"
	"slices"

	"hasse/api"
)

// Maps of n points to m points, all of them.
func Maps(n, m int) [][]int {
	maps := [][]int{{}}
	for range n {
		var longer [][]int
		for _, f := range maps {
			for point := range m {
				longer = append(longer, append(slices.Clone(f), point))
			}
		}
		maps = longer
	}
	return maps
}

// WrongMap is what is no map, and what is wrong with it.
type WrongMap struct {
	Map []int
	Err api.Errno
}

// WrongMaps of n points to m points: each thing that can be wrong, and where several are, the one that is told.
func WrongMaps(n, m int) []WrongMap {
	var wrong []WrongMap
	for _, size := range []int{n - 1, n + 1, 2 * n, 0} {
		if size < 0 || size == n {
			continue
		}
		wrong = append(wrong, WrongMap{make([]int, size), api.ErrForm}, WrongMap{slices.Repeat([]int{-1}, size), api.ErrForm}, WrongMap{slices.Repeat([]int{m}, size), api.ErrForm})
	}
	for place := range n {
		for _, number := range []int{-1, m, math.MaxInt, math.MinInt} {
			f := make([]int, n)
			f[place] = number
			wrong = append(wrong, WrongMap{f, api.ErrRange})
		}
	}
	return wrong
}

// DrawnMap of n points to m points, of which there is one at least.
func DrawnMap(n, m int, draw *Draw) []int {
	f := make([]int, n)
	for i := range f {
		f[i] = draw.Next(m)
	}
	return f
}
