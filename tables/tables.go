// Package tables: what all layers that have lattices ask of their tables alike, and tables of sets.
package tables

import (
	"slices"

	"hasse/api"
)

// IsUpTo tells whether an element of a lattice is another one or below it.
func IsUpTo(l api.Lattice, x, y int) bool { return l.Meet[x][y] == x }

// IsBelow tells whether it is below that one.
func IsBelow(l api.Lattice, x, y int) bool { return x != y && IsUpTo(l, x, y) }

// End is the element to which all of them come together in a table: of Meet the least one, of Join the greatest one.
func End(table [][]int) int {
	all := 0
	for x := range table {
		all = table[all][x]
	}
	return all
}

// OfSets: the lattice of sets that rise, by their places in the list. What two have in common must be one of them, and so must be what join makes of what they have together. ErrMany, if there are too many for a lattice.
func OfSets(list []int, join func(together int) int) (api.Lattice, api.Errno) {
	n := len(list)
	if n > api.MaxLattice {
		return api.Lattice{}, api.ErrMany
	}
	l := api.Lattice{N: n, Meet: make([][]int, n), Join: make([][]int, n)}
	for x := range n {
		for y := range n {
			l.Meet[x] = append(l.Meet[x], Place(list, list[x]&list[y]))
			l.Join[x] = append(l.Join[x], Place(list, join(list[x]|list[y])))
		}
	}
	return l, api.OK
}

// Place in a list of sets that rise of a set that is one of them.
func Place(list []int, set int) int {
	place, _ := slices.BinarySearch(list, set)
	return place
}
