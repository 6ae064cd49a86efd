package whole

import (
	"slices"
	"testing"

	"hasse/api"
	"hasse/canon"
	"hasse/chain"
	"hasse/complete"
	"hasse/extend"
	"hasse/fix"
	"hasse/lattice"
	"hasse/level"
	"hasse/moebius"
	"hasse/order"
	"hasse/poly"
	"hasse/realize"
	"hasse/samples"
	"hasse/scales"
	"hasse/series"
	"hasse/space"
	"hasse/span"
)

// mark of something that is so.
func mark(so bool) int {
	if so {
		return 1
	}
	return 0
}

// found: a mark of whether a call finds something.
func found[T any](_ T, is bool, err api.Errno) int { return mark(right(is, err)) }

// figures that are told of an order: those that do not tell which points are meant, nor which way is up.
func figures(o api.Order) [][]int {
	_, _, isUnits, err := span.Units(o)
	return [][]int{
		{o.N, right(extend.Count(o)), len(right(order.Covers(o))), len(right(order.Ideals(o))), len(right(complete.Cuts(o)))},
		right(level.Chains(o)),
		{len(right(level.Longest(o))), len(right(chain.Parts(o)))},
		right(chain.ByChains(o)),
		right(chain.ByAntichains(o)),
		{found(span.Spans(o)), found(span.Two(o)), found(span.Three(o)), mark(right(isUnits, err)), found(series.Split(o)), found(series.Zig(o))},
		right(poly.Onto(o)),
		{right(poly.Value(o, 4)), right(poly.Value(o, -4)), right(poly.Strict(o, 4)), right(poly.Zeta(o, 4)), right(poly.Zeta(o, -1)), right(moebius.Euler(o))},
		pieceSizes(o),
		{len(members(right(fix.Core(o))))},
		latticeFigures(o),
	}
}

// upFigures that tell which way is up, but not which points are meant: a level begins below.
func upFigures(o api.Order) []int {
	least, greatest, err := order.Ends(o)
	list := []int{right(len(members(least)), err), len(members(greatest)), mark(right(level.Graded(o)))}
	for _, set := range right(level.Levels(o)) {
		list = append(list, len(members(set)))
	}
	return list
}

// pieceSizes rising.
func pieceSizes(o api.Order) []int {
	var sizes []int
	for _, piece := range right(space.Pieces(o)) {
		sizes = append(sizes, len(members(piece)))
	}
	slices.Sort(sizes)
	return sizes
}

// members of a set.
func members(set int) []int {
	var points []int
	for point := range api.MaxPoints {
		if set>>point&1 == 1 {
			points = append(points, point)
		}
	}
	return points
}

// latticeFigures of an order, if it is one.
func latticeFigures(o api.Order) []int {
	l, is := ifAny(lattice.Tables(o))
	if !is {
		return nil
	}
	return []int{mark(right(lattice.Modular(l))), mark(right(lattice.Distributive(l)))}
}

// fewFigures: likewise, of orders that have few points.
func fewFigures(o api.Order) []int {
	dimension, _, err := realize.Dimension(o)
	list := []int{right(dimension, err), found(realize.Turned(o)), len(right(canon.Moves(o)))}
	if o.N <= api.MaxMaps {
		list = append(list, right(fix.Count(o, o)), mark(right(fix.Always(o))), right(scales.Cost(o)))
	}
	return list
}

// formOf an order, and the list by which it has it.
func formOf(o api.Order) (api.Order, []int) {
	form, list, err := canon.Form(o)
	return right(form, err), list
}

// formed orders: all forms of up to five points and drawn orders of six, each numbered anew.
func formed() []api.Order {
	var orders []api.Order
	draw := new(samples.Draw)
	for n := range 6 {
		for _, form := range right(canon.All(n)) {
			orders = append(orders, samples.Renumbered(form, draw))
		}
	}
	for _, o := range samples.GreatOrders(120) {
		if o.N == 6 {
			orders = append(orders, o)
		}
	}
	return append(orders, samples.Below(0, 0, 0, 6, 5, 3))
}

func TestFiguresAreToldOfTheForm(t *testing.T) {
	for _, o := range formed() {
		form, _ := formOf(o)
		if !slices.EqualFunc(figures(o), figures(form), slices.Equal) || !slices.Equal(fewFigures(o), fewFigures(form)) || !slices.Equal(upFigures(o), upFigures(form)) {
			t.Fatalf("%v: %v, %v; its form %v: %v, %v", o, figures(o), fewFigures(o), form, figures(form), fewFigures(form))
		}
	}
}

func TestFiguresAreToldWhicheverWayItIsNumbered(t *testing.T) {
	draw := new(samples.Draw)
	for _, o := range tried(150) {
		other := samples.Renumbered(o, draw)
		if !slices.EqualFunc(figures(o), figures(other), slices.Equal) || !slices.Equal(upFigures(o), upFigures(other)) {
			t.Fatalf("%v: %v; numbered anew %v: %v", o, figures(o), other, figures(other))
		}
	}
}

func TestPointsAreToldOfTheForm(t *testing.T) {
	for _, o := range formed() {
		form, list := formOf(o)
		heights, others := right(level.Heights(o)), right(level.Heights(form))
		for place, point := range list {
			if heights[point] != others[place] {
				t.Fatalf("%v has the heights %v, its form %v by %v has %v", o, heights, form, list, others)
			}
			for next, other := range list {
				if right(moebius.Mu(o, point, other)) != right(moebius.Mu(form, place, next)) || right(extend.Ahead(o, point, other)) != right(extend.Ahead(form, place, next)) {
					t.Fatalf("%v tells otherwise of %d and %d than its form %v of %d and %d", o, point, other, form, place, next)
				}
			}
		}
		// What is left of both has one form, whichever points these are.
		left, rest := right(order.Part(o, right(fix.Core(o)))), right(order.Part(form, right(fix.Core(form))))
		if !right(canon.Alike(left, rest)) {
			t.Fatalf("of %v is left %v, of its form %v", o, left, rest)
		}
		for k := range min(20, right(extend.Count(form))) {
			row := samples.Renamed(right(extend.Nth(form, k)), list)
			if _, err := extend.Rank(o, row); err != api.OK {
				t.Fatalf("%v: %v is a row of its form, but not of it", o, row)
			}
		}
	}
}

func TestFiguresAreToldOfTheDual(t *testing.T) {
	for _, o := range tried(150) {
		dual := right(order.Dual(o))
		if !slices.EqualFunc(figures(o), figures(dual), slices.Equal) {
			t.Fatalf("%v: %v; turned over %v: %v", o, figures(o), dual, figures(dual))
		}
	}
	for _, o := range formed() {
		if dual := right(order.Dual(o)); !slices.Equal(fewFigures(o), fewFigures(dual)) {
			t.Fatalf("%v: %v; turned over %v", o, fewFigures(o), fewFigures(dual))
		}
	}
}

// isTurnedOver: is what is told of two points of an order, and of its sets, told the other way round of another one?
func isTurnedOver(o, dual api.Order) bool {
	for a := range o.N {
		for b := range o.N {
			if right(moebius.Mu(o, a, b)) != right(moebius.Mu(dual, b, a)) || right(extend.Ahead(o, a, b)) != right(extend.Ahead(dual, b, a)) {
				return false
			}
		}
	}
	all := 1<<o.N - 1
	for set := range 1 << o.N {
		// What is closed in the one is open in the other, and so its rest is closed in that.
		if right(complete.Upper(o, set)) != right(complete.Lower(dual, set)) || right(space.Closure(dual, set)) != all&^right(space.Inside(dual, all&^set)) || right(space.Inside(o, right(space.Closure(dual, set)))) != right(space.Closure(dual, set)) {
			return false
		}
	}
	return true
}

func TestTurnedOverItIsTheOtherWayRound(t *testing.T) {
	for _, o := range tried(150) {
		dual := right(order.Dual(o))
		least, greatest, err := order.Ends(o)
		bottom, top, other := order.Ends(dual)
		if err != api.OK || other != api.OK || least != top || greatest != bottom {
			t.Fatalf("%v has the ends %d and %d, turned over %d and %d", o, least, greatest, bottom, top)
		}
		if !isTurnedOver(o, dual) || !isTurnedOver(dual, o) {
			t.Fatalf("of %v and %v is not the same told, the other way round", o, dual)
		}
		if right(fix.Core(o)) != right(fix.Core(dual)) || !slices.Equal(right(space.Pieces(o)), right(space.Pieces(dual))) {
			t.Fatalf("%v, turned over, leaves something else, or has other pieces", o)
		}
		l, is := ifAny(lattice.Tables(o))
		k, isToo := ifAny(lattice.Tables(dual))
		if is != isToo || !slices.EqualFunc(l.Meet, k.Join, slices.Equal) || !slices.EqualFunc(l.Join, k.Meet, slices.Equal) {
			t.Fatalf("%v has the tables %v, turned over %v", o, l, k)
		}
	}
}
