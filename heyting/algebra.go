package heyting

import (
	"sync"

	"hasse/api"
	"hasse/lattice"
	"hasse/tables"
)

// algebra: a distributive lattice, and what of its elements implies what. Not every formula needs that table, so it is laid out when it is first asked for.
type algebra struct {
	api.Lattice
	laid  sync.Once
	table [][]int
}

// algebraOf a lattice; ErrState, if it is not distributive.
func algebraOf(l api.Lattice) (*algebra, api.Errno) {
	distributive, err := lattice.Distributive(l)
	if err != api.OK {
		return nil, err
	}
	if !distributive {
		return nil, api.ErrState
	}
	return &algebra{Lattice: l}, api.OK
}

func (a *algebra) least() int { return tables.End(a.Meet) }

func (a *algebra) and(x, y int) int { return a.Meet[x][y] }

func (a *algebra) or(x, y int) int { return a.Join[x][y] }

func (a *algebra) implies(x, y int) int {
	a.laid.Do(a.layOut)
	return a.table[x][y]
}

func (a *algebra) not(x int) int { return a.implies(x, a.least()) }

// layOut the table of what each two elements imply.
func (a *algebra) layOut() {
	a.table = make([][]int, a.N)
	for x := range a.N {
		for y := range a.N {
			a.table[x] = append(a.table[x], a.greatestWith(x, y))
		}
	}
}

// greatestWith: of all whose Meet with x is y or below it the Join. It is one of them, for the lattice is distributive, and so the greatest.
func (a *algebra) greatestWith(x, y int) int {
	join := a.least()
	for z := range a.N {
		if tables.IsUpTo(a.Lattice, a.Meet[z][x], y) {
			join = a.Join[join][z]
		}
	}
	return join
}
