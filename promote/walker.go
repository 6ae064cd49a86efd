package promote

import (
	"slices"

	"hasse/api"
	"hasse/extend"
	"hasse/sets"
)

// walker goes through a row of an order, and changes it on the way.
type walker struct {
	api.Order
	row []int
}

// walkerOf an order and a row; the row is its own.
func walkerOf(o api.Order, row []int) (walker, api.Errno) {
	// Only a row has a number.
	if _, err := extend.Rank(o, row); err != api.OK {
		return walker{}, err
	}
	return walker{Order: o, row: slices.Clone(row)}, api.OK
}

// goUp by the first swaps, as many as are told.
func (w walker) goUp(swaps int) {
	for k := range swaps {
		w.swap(k)
	}
}

// goDown by the same swaps, from the last one on.
func (w walker) goDown(swaps int) {
	for k := swaps - 1; k >= 0; k-- {
		w.swap(k)
	}
}

// swap k leaves a row a row: what stands behind a point is not below it, and what is above it stays behind it.
func (w walker) swap(k int) {
	ahead, behind := w.row[k], w.row[k+1]
	if !sets.Has(w.Below[behind], ahead) {
		w.row[k], w.row[k+1] = behind, ahead
	}
}
