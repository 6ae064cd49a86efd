// Package samples: orders, right ones and wrong ones, that the tests of all layers are tried on. It leans on no layer, so that none is asked to vouch for itself.
package samples

import (
	"math"
	"slices"

	"hasse/api"
)

// Below tells an order by its sets.
func Below(sets ...int) api.Order { return api.Order{N: len(sets), Below: sets} }

// IsBelow tells whether a point is below another one.
func IsBelow(o api.Order, lower, upper int) bool { return o.Below[upper]>>lower&1 == 1 }

// Apart: as many points as there may be that know nothing of one another.
func Apart() api.Order { return Below(make([]int, 10)...) }

// Rising: a chain of as many points as there may be, from 0 up.
func Rising() api.Order { return Below(0, 1, 3, 7, 15, 31, 63, 127, 255, 511) }

// Falling: such a chain the other way round.
func Falling() api.Order { return Below(1022, 1020, 1016, 1008, 992, 960, 896, 768, 512, 0) }

// Storeys: five of two points each, one above the other.
func Storeys() api.Order { return Below(0, 0, 3, 3, 15, 15, 63, 63, 255, 255) }

// Orders of n points, all of them: all lists of sets, of which those that are orders are kept.
func Orders(n int) []api.Order {
	var orders []api.Order
	for code := range 1 << (n * n) {
		sets := make([]int, n)
		for i := range sets {
			sets[i] = code >> (i * n) & (1<<n - 1)
		}
		if IsOrder(sets) {
			orders = append(orders, Below(sets...))
		}
	}
	return orders
}

// IsOrder tells by each three points whether sets, none with what is no point, are an order.
func IsOrder(sets []int) bool {
	is := func(a, b int) bool { return sets[b]>>a&1 == 1 }
	for a := range sets {
		for b := range sets {
			for c := range sets {
				if is(a, a) || is(a, b) && is(b, c) && !is(a, c) {
					return false
				}
			}
		}
	}
	return true
}

// SmallOrders: all orders of up to four points.
func SmallOrders() []api.Order {
	var orders []api.Order
	for n := range 5 {
		orders = append(orders, Orders(n)...)
	}
	return orders
}

// NaturalOrders of n points: all in which only lesser numbers are below a point. Each order is one of these, numbered anew.
func NaturalOrders(n int) []api.Order {
	var orders []api.Order
	for code := range 1 << (n * (n - 1) / 2) {
		sets := make([]int, n)
		for i := range sets {
			sets[i] = code & (1<<i - 1)
			code >>= i
		}
		if IsOrder(sets) {
			orders = append(orders, Below(sets...))
		}
	}
	return orders
}

// Renumbered: the same order, its points numbered any way.
func Renumbered(o api.Order, draw *Draw) api.Order { return Named(o, shuffled(o.N, draw)) }

// Named: the same order, its points numbered by a list of their names.
func Named(o api.Order, names []int) api.Order {
	sets := make([]int, o.N)
	for upper, name := range names {
		for lower, other := range names {
			if IsBelow(o, lower, upper) {
				sets[name] |= 1 << other
			}
		}
	}
	return Below(sets...)
}

// Draw gives numbers that look like chance, the same each time.
type Draw uint64

// Next is a number from 0 to n - 1.
func (d *Draw) Next(n int) int {
	*d = *d*6364136223846793005 + 1442695040888963407
	return int(uint64(*d) >> 33 % uint64(n))
}

// GreatOrders: orders of five points up to as many as there may be, drawn with few pairs and with many, and numbered any way.
func GreatOrders(count int) []api.Order {
	orders := make([]api.Order, 0, count)
	draw := new(Draw)
	for i := range count {
		n := 5 + draw.Next(api.MaxPoints-4)
		row := shuffled(n, draw)
		sets := make([]int, n)
		for k, upper := range row {
			for _, lower := range row[:k] {
				if draw.Next(2+i%6) == 0 {
					sets[upper] |= 1<<lower | sets[lower]
				}
			}
		}
		orders = append(orders, Below(sets...))
	}
	return orders
}

// shuffled: n points in a row.
func shuffled(n int, draw *Draw) []int {
	row := make([]int, n)
	for i := range row {
		k := draw.Next(i + 1)
		row[i] = row[k]
		row[k] = i
	}
	return row
}

// Wrong is what is no order, and what is wrong with it.
type Wrong struct {
	Order api.Order
	Err   api.Errno
}

// WrongOrders: each thing that can be wrong, and where several are, the one that is told.
func WrongOrders() []Wrong {
	return []Wrong{
		{api.Order{N: -1}, api.ErrMany},
		{api.Order{N: 11, Below: make([]int, 11)}, api.ErrMany},
		{api.Order{N: math.MaxInt}, api.ErrMany},
		{api.Order{N: math.MinInt}, api.ErrMany},
		{api.Order{N: 11, Below: []int{-1}}, api.ErrMany},
		{api.Order{N: 0, Below: []int{0}}, api.ErrForm},
		{api.Order{N: 2, Below: []int{0}}, api.ErrForm},
		{api.Order{N: 2, Below: []int{0, 0, 0}}, api.ErrForm},
		{api.Order{N: 2, Below: nil}, api.ErrForm},
		{api.Order{N: 2, Below: []int{-1}}, api.ErrForm},
		{Below(0, 4), api.ErrRange},
		{Below(0, -1), api.ErrRange},
		{Below(math.MinInt, 0), api.ErrRange},
		{Below(math.MaxInt, 0), api.ErrRange},
		{Below(1, 4), api.ErrRange},
		{Below(0, 0, 0, 0, 0, 0, 0, 0, 0, 1<<10), api.ErrRange},
		{Below(1), api.ErrState},
		{Below(0, 2), api.ErrState},
		{Below(2, 1), api.ErrState},
		{Below(0, 1, 2), api.ErrState},
		{Below(4, 0, 2), api.ErrState},
		{Below(0, 0, 0, 0, 0, 0, 0, 0, 0, 1<<9), api.ErrState},
	}
}

// Roomy is a list with spare room behind it; the whole room, with marks that must stay, comes along.
func Roomy(numbers ...int) (list, room []int) {
	room = append([]int{}, numbers...)
	room = append(room, 77, 78, 79, 80, 81, 82, 83, 84, 85, 86)
	return room[:len(numbers)], room
}

// Spoil writes over a list and all the room behind it.
func Spoil(list []int) {
	whole := list[:cap(list)]
	for i := range whole {
		whole[i] = -5
	}
}

// Shared tells whether two lists have memory in common, the room behind them too: one is written over, and another one is no longer as it was.
func Shared(lists ...[]int) bool {
	for i, list := range lists {
		own := append([]int{}, list[:cap(list)]...)
		for k, other := range lists {
			before := append([]int{}, other[:cap(other)]...)
			Spoil(list)
			after := append([]int{}, other[:cap(other)]...)
			copy(list[:cap(list)], own)
			if k != i && !slices.Equal(before, after) {
				return true
			}
		}
	}
	return false
}
