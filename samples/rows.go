package samples

import (
	"math"
	"slices"

	"hasse/api"
)

// Lists of each of n points once, as lists are compared.
func Lists(n int) [][]int {
	all := [][]int{{}}
	for range n {
		var longer [][]int
		for _, list := range all {
			for point := range n {
				if !slices.Contains(list, point) {
					longer = append(longer, append(slices.Clone(list), point))
				}
			}
		}
		all = longer
	}
	return all
}

// Stands a ahead of b in a list that has both?
func Stands(list []int, a, b int) bool { return slices.Index(list, a) < slices.Index(list, b) }

// Renamed: a list of points, told by a list of their names.
func Renamed(list, names []int) []int {
	renamed := make([]int, len(list))
	for place, point := range list {
		renamed[place] = names[point]
	}
	return renamed
}

// IsRow of an order, a list that has each point once: none stands ahead of one that is below it.
func IsRow(o api.Order, list []int) bool {
	for place, later := range list {
		for _, point := range list[:place] {
			if IsBelow(o, later, point) {
				return false
			}
		}
	}
	return true
}

// RowsOf an order, found among all lists.
func RowsOf(o api.Order) [][]int {
	var rows [][]int
	for _, list := range Lists(o.N) {
		if IsRow(o, list) {
			rows = append(rows, list)
		}
	}
	return rows
}

// DrawnRow of an order: of the points that have all below them in the row any one comes next.
func DrawnRow(o api.Order, draw *Draw) []int {
	row := make([]int, 0, o.N)
	for placed := 0; len(row) < o.N; {
		point := draw.Next(o.N)
		if placed>>point&1 == 0 && o.Below[point]&^placed == 0 {
			row = append(row, point)
			placed |= 1 << point
		}
	}
	return row
}

// NoRow is what is no row of an order.
type NoRow struct {
	Order api.Order
	List  []int
}

// NoRows: too short, too long, with a point twice, with what is no point, or with a point ahead of one below it.
func NoRows() []NoRow {
	return []NoRow{
		{Below(), []int{0}},
		{Below(0), nil},
		{Below(0), []int{1}},
		{Below(0), []int{-1}},
		{Below(0), []int{0, 0}},
		{Below(0), []int{math.MinInt}},
		{Below(0), []int{math.MaxInt}},
		{Below(0), []int{64}},
		{Below(0, 0), []int{0, 0}},
		{Below(0, 0), []int{0}},
		{Below(0, 0), []int{0, 1, 2}},
		{Below(0, 0), []int{0, 1, 0}},
		{Below(0, 0), []int{0, 2}},
		{Below(0, 1), []int{1, 0}},
		{Below(0, 1, 3), []int{0, 2, 1}},
		{Below(0, 0, 3, 2), []int{0, 3, 1, 2}},
		{Apart(), []int{0, 1, 2, 3, 4, 5, 6, 7, 8, 10}},
		{Apart(), []int{0, 1, 2, 3, 4, 5, 6, 7, 8, 8}},
		{Apart(), make([]int, 1000)},
	}
}
