package quotient

import (
	"slices"

	"hasse/api"
)

// pair of elements that are in one class.
type pair [2]int

// together: the congruence in which the elements of each pair are in one class, and no others that need not be.
func together(l api.Lattice, pairs ...pair) []int {
	classes := make([]int, l.N)
	for x := range classes {
		classes[x] = x
	}
	for left := slices.Clone(pairs); len(left) > 0; {
		last := len(left) - 1
		x, y := left[last][0], left[last][1]
		left = left[:last]
		// What is in one class already is so by pairs whose Meets and Joins have been taken along.
		if classes[x] == classes[y] {
			continue
		}
		merge(classes, classes[x], classes[y])
		for z := range l.N {
			left = append(left, pair{l.Meet[x][z], l.Meet[y][z]}, pair{l.Join[x][z], l.Join[y][z]})
		}
	}
	return numbered(classes)
}

// merge one class into another one.
func merge(classes []int, from, into int) {
	for x, class := range classes {
		if class == from {
			classes[x] = into
		}
	}
}

// numbered: the same classes, by the numbers that they must have.
func numbered(classes []int) []int {
	known := map[int]int{}
	list := make([]int, len(classes))
	for x, class := range classes {
		number, met := known[class]
		if !met {
			number = len(known)
			known[class] = number
		}
		list[x] = number
	}
	return list
}

// pairsOf classes: each element with the first one of its class, which says it all.
func pairsOf(classes []int) []pair {
	pairs := make([]pair, len(classes))
	for x, class := range classes {
		pairs[x] = pair{slices.Index(classes, class), x}
	}
	return pairs
}

// ofPairs: the least congruences of two elements each, the same one once only.
func ofPairs(l api.Lattice) [][]int {
	var single shelf
	for x := range l.N {
		for y := range x {
			single.put(together(l, pair{x, y}))
		}
	}
	return single.lists
}

// tableBy classes of a congruence: whichever elements of two classes are taken, what they come together to is in the same one.
func tableBy(table [][]int, classes []int) [][]int {
	n := slices.Max(classes) + 1
	rows := make([][]int, n)
	for class := range rows {
		rows[class] = make([]int, n)
	}
	for x, row := range table {
		for y, z := range row {
			rows[classes[x]][classes[y]] = classes[z]
		}
	}
	return rows
}

// key is a list of classes as a map takes it; of one lattice all lists are of one length, so the noughts behind them tell nothing.
type key [api.MaxLattice]int

// shelf of lists of classes, each once, in the order in which they came; at tells where one that is known stands.
type shelf struct {
	at    map[key]int
	lists [][]int
}

// put a list there, if it is not known.
func (s *shelf) put(classes []int) {
	if s.at == nil {
		s.at = map[key]int{}
	}
	var k key
	copy(k[:], classes)
	if _, known := s.at[k]; !known {
		s.at[k] = len(s.lists)
		s.lists = append(s.lists, classes)
	}
}
