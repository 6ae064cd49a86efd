package lattice

import (
	"hasse/api"
	"hasse/seek"
	"hasse/sets"
)

// tables of a lattice, so that what is said of one is said of the other likewise.
func tables(l api.Lattice) [2][][]int { return [2][][]int{l.Meet, l.Join} }

// inBoth tells whether something is so in either table.
func inBoth(l api.Lattice, so func(table [][]int) bool) bool {
	for _, table := range tables(l) {
		if !so(table) {
			return false
		}
	}
	return true
}

// isBelow tells whether an element is below another one.
func isBelow(l api.Lattice, x, y int) bool { return x != y && l.Meet[x][y] == x }

// isSquare tells whether a table has n rows of n.
func isSquare(table [][]int, n int) bool {
	if len(table) != n {
		return false
	}
	for _, row := range table {
		if len(row) != n {
			return false
		}
	}
	return true
}

// isOfElements tells whether all that stands in a table is one of n elements.
func isOfElements(table [][]int, n int) bool {
	for _, row := range table {
		for _, element := range row {
			if !sets.IsPoint(element, n) {
				return false
			}
		}
	}
	return true
}

// isLawful tells whether a table is as it must be beside the other one.
func isLawful(table, other [][]int) bool {
	return always(len(table), func(x, y, z int) bool {
		return table[x][x] == x &&
			table[x][y] == table[y][x] &&
			table[x][table[y][z]] == table[table[x][y]][z] &&
			table[x][other[x][y]] == x
	})
}

// always tells whether a law holds for each three of n elements.
func always(n int, law func(x, y, z int) bool) bool {
	_, broken := seek.Three(n, func(x, y, z int) bool { return !law(x, y, z) })
	return !broken
}

// end is the element to which all of them come together in a table: of Meet the least one, of Join the greatest one.
func end(table [][]int) int {
	all := 0
	for x := range table {
		all = table[all][x]
	}
	return all
}

// meets of each two points of an order; false: two have none.
func meets(o api.Order) ([][]int, bool) {
	table := make([][]int, o.N)
	for x := range o.N {
		for y := range o.N {
			meet, found := highest(o, upTo(o, x)&upTo(o, y))
			if !found {
				return nil, false
			}
			table[x] = append(table[x], meet)
		}
	}
	return table, true
}

// upTo is the set of a point and all below it.
func upTo(o api.Order, point int) int { return o.Below[point] | 1<<point }

// highest: the point of a set that all others of it are below.
func highest(o api.Order, set int) (int, bool) {
	for _, point := range sets.Members(set) {
		if set&^upTo(o, point) == 0 {
			return point, true
		}
	}
	return 0, false
}
