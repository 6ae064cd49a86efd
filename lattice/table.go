package lattice

import (
	"hasse/api"
	"hasse/seek"
	"hasse/sets"
)

// pair of the tables of a lattice, so that what is said of one is said of the other likewise.
func pair(l api.Lattice) [2][][]int { return [2][][]int{l.Meet, l.Join} }

// inBoth tells whether something is so in either table.
func inBoth(l api.Lattice, so func(table [][]int) bool) bool {
	for _, table := range pair(l) {
		if !so(table) {
			return false
		}
	}
	return true
}

// isSquare tells whether a table has n rows of n.
func isSquare(table [][]int, n int) bool {
	if len(table) != n {
		return false
	}
	for _, row := range table {
		if len(row) != n {
			return false
		}
	}
	return true
}

// isOfElements tells whether all that stands in a table is one of n elements.
func isOfElements(table [][]int, n int) bool {
	for _, row := range table {
		for _, element := range row {
			if !sets.IsPoint(element, n) {
				return false
			}
		}
	}
	return true
}

// isLawful tells whether a table is as it must be beside the other one.
func isLawful(table, other [][]int) bool {
	return always(len(table), func(x, y, z int) bool {
		return table[x][x] == x &&
			table[x][y] == table[y][x] &&
			table[x][table[y][z]] == table[table[x][y]][z] &&
			table[x][other[x][y]] == x
	})
}

// always tells whether a law holds for each three of n elements.
func always(n int, law func(x, y, z int) bool) bool {
	_, broken := seek.Three(n, func(x, y, z int) bool { return !law(x, y, z) })
	return !broken
}

// meets of each two points of an order; false: two have none.
func meets(o api.Order) ([][]int, bool) {
	table := make([][]int, o.N)
	for x := range o.N {
		for y := range o.N {
			meet, found := highest(o, sets.UpTo(o, x)&sets.UpTo(o, y))
			if !found {
				return nil, false
			}
			table[x] = append(table[x], meet)
		}
	}
	return table, true
}

// highest: the point of a set that all others of it are below.
func highest(o api.Order, set int) (int, bool) {
	for _, point := range sets.Members(set) {
		if sets.HasAll(sets.UpTo(o, point), set) {
			return point, true
		}
	}
	return 0, false
}
