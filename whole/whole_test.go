// Package whole has tests of what the document's section 'What the whole promises' says: several layers are asked of the same things.
package whole

import (
	"slices"
	"testing"

	"hasse/api"
	"hasse/clock"
	"hasse/concept"
	"hasse/convex"
	"hasse/desk"
	"hasse/extend"
	"hasse/fix"
	"hasse/ideal"
	"hasse/imply"
	"hasse/lattice"
	"hasse/level"
	"hasse/order"
	"hasse/poly"
	"hasse/promote"
	"hasse/realize"
	"hasse/samples"
	"hasse/scales"
	"hasse/series"
	"hasse/space"
)

// right: what a call answers in which nothing is wrong.
func right[T any](answer T, err api.Errno) T {
	if err != api.OK {
		panic(err)
	}
	return answer
}

// ifAny: likewise of a call that may find none.
func ifAny[T any](answer T, found bool, err api.Errno) (T, bool) {
	if err != api.OK {
		panic(err)
	}
	return answer, found
}

// tried orders: all of up to four points, and greater ones.
func tried(greater int) []api.Order {
	return slices.Concat(samples.SmallOrders(), samples.GreatOrders(greater), []api.Order{samples.Apart(), samples.Rising(), samples.Falling(), samples.Storeys()})
}

// isSame: are two orders the same, point by point?
func isSame(a, b api.Order) bool { return a.N == b.N && slices.Equal(a.Below, b.Below) }

// setsOf n points of which something is so.
func setsOf(n int, so func(set int) bool) []int {
	var list []int
	for set := range 1 << n {
		if so(set) {
			list = append(list, set)
		}
	}
	return list
}

// things of concepts.
func things(concepts [][2]int) []int {
	var list []int
	for _, pair := range concepts {
		list = append(list, pair[0])
	}
	return list
}

// notAbove: each point has as marks those that it is neither nor above.
func notAbove(o api.Order) api.Context {
	c := samples.ContextOf(o.N, make([]int, o.N)...)
	for point, set := range o.Below {
		c.Has[point] = (1<<o.N - 1) &^ (set | 1<<point)
	}
	return c
}

// downward: who has a point has all below it.
func downward(o api.Order) []api.Rule {
	var rules []api.Rule
	for point, set := range o.Below {
		rules = append(rules, api.Rule{If: 1 << point, Then: set})
	}
	return rules
}

func TestIdealsAreToldAlikeAsSets(t *testing.T) {
	for _, o := range tried(200) {
		ideals := right(order.Ideals(o))
		dual := right(order.Dual(o))
		rules := downward(o)
		for layer, got := range map[string][]int{
			"convex":  right(convex.Ideals(o)).Sets,
			"space":   right(space.Opens(dual)),
			"closed":  setsOf(o.N, func(set int) bool { return right(space.Closure(o, set)) == set }),
			"inside":  setsOf(o.N, func(set int) bool { return right(space.Inside(dual, set)) == set }),
			"concept": things(right(concept.Concepts(notAbove(o)))),
			"imply":   setsOf(o.N, func(set int) bool { return right(imply.Close(o.N, rules, set)) == set }),
		} {
			if !slices.Equal(got, ideals) {
				t.Fatalf("%v: %s tells %v, order %v", o, layer, got, ideals)
			}
		}
	}
}

func TestIdealsAreToldAlikeAsALattice(t *testing.T) {
	for _, o := range tried(200) {
		ideals := right(order.Ideals(o))
		l, err := ideal.Lattice(o)
		if len(ideals) > api.MaxLattice {
			if err != api.ErrMany {
				t.Fatalf("%v has %d ideals, and their lattice: error %d", o, len(ideals), err)
			}
			continue
		}
		if err != api.OK || l.N != len(ideals) {
			t.Fatalf("%v has %d ideals, and their lattice %d elements: error %d", o, len(ideals), l.N, err)
		}
		for x, one := range ideals {
			for y, other := range ideals {
				if ideals[l.Meet[x][y]] != one&other || ideals[l.Join[x][y]] != one|other {
					t.Fatalf("%v: the Meet or the Join of %d and %d is %d, %d", o, x, y, l.Meet[x][y], l.Join[x][y])
				}
			}
		}
		if points := right(ideal.Points(l)); extendsAlike(points) != extendsAlike(o) || !slices.Equal(right(order.Ideals(points)), setsIn(l)) {
			t.Fatalf("%v has a lattice whose points are %v", o, points)
		}
	}
}

// extendsAlike: what two orders of one form have in common.
func extendsAlike(o api.Order) [3]int {
	return [3]int{o.N, right(extend.Count(o)), right(poly.Value(o, 3))}
}

// setsIn: of each element of a lattice the set of points that are up to it, rising.
func setsIn(l api.Lattice) []int {
	var list []int
	for x := range l.N {
		list = append(list, right(ideal.Set(l, x)))
	}
	slices.Sort(list)
	return list
}

func TestIdealsAreToldAlikeByTheirNumber(t *testing.T) {
	two := samples.Below(0, 1)
	for _, o := range tried(200) {
		want := len(right(order.Ideals(o)))
		antichains := setsOf(o.N, func(set int) bool { return len(right(level.Longest(right(order.Part(o, set))))) <= 1 })
		for layer, got := range map[string]int{
			"antichains": len(antichains),
			"poly":       right(poly.Value(o, 2)),
			"open sets":  len(right(space.Opens(o))),
		} {
			if got != want {
				t.Fatalf("%v has %d ideals, and of %s %d", o, want, layer, got)
			}
		}
		if o.N > api.MaxMaps {
			continue
		}
		if got := right(fix.Count(o, two)); got != want {
			t.Fatalf("%v has %d ideals, and %d maps to two points", o, want, got)
		}
		// An ideal goes to the lower one of two points, its rest to the upper one.
		for set := range 1 << o.N {
			f := make([]int, o.N)
			for point := range f {
				f[point] = 1 - set>>point&1
			}
			if right(fix.Monotone(o, two, f)) != slices.Contains(right(order.Ideals(o)), set) {
				t.Fatalf("%v: is %v of the set %d monotone?", o, f, set)
			}
		}
	}
}

func TestRowsAreToldAlikeByTheirNumber(t *testing.T) {
	for _, o := range tried(200) {
		want := right(extend.Count(o))
		if got := right(convex.Words(right(convex.Ideals(o)))); got != want {
			t.Fatalf("%v has %d rows, and %d words", o, want, got)
		}
		if got := right(poly.Onto(o))[o.N]; got != want {
			t.Fatalf("%v has %d rows, and %d maps onto as many points", o, want, got)
		}
		if term, found := ifAny(series.Split(o)); found {
			if got := right(series.Rows(term)); got != want {
				t.Fatalf("%v has %d rows, and its term %d", o, want, got)
			}
		}
		if ideals := right(order.Ideals(o)); len(ideals) <= api.MaxPoints {
			chains := right(level.Chains(right(lattice.Order(right(ideal.Lattice(o))))))
			if got := chains[len(chains)-1]; got != want || len(chains) != o.N+2 {
				t.Fatalf("%v has %d rows, and its ideals the chains %v", o, want, chains)
			}
		}
		for a := range o.N {
			for b := range a {
				if got := right(extend.Ahead(o, a, b)) + right(extend.Ahead(o, b, a)); got != want {
					t.Fatalf("%v has %d rows, and %d in which %d and %d stand", o, want, got, a, b)
				}
			}
		}
	}
}

// rowsOf an order, from the first to the last.
func rowsOf(o api.Order) [][]int {
	var rows [][]int
	for k := range right(extend.Count(o)) {
		rows = append(rows, right(extend.Nth(o, k)))
	}
	return rows
}

func TestRowsAreToldAlikeOneByOne(t *testing.T) {
	for _, o := range slices.Concat(samples.SmallOrders(), samples.NaturalOrders(5)) {
		rows := rowsOf(o)
		if !slices.EqualFunc(rows, samples.RowsOf(o), slices.Equal) {
			t.Fatalf("%v has the rows %v", o, rows)
		}
		if len(rows) <= api.MaxPoints && !isSame(right(realize.Of(o.N, rows)), o) {
			t.Fatalf("%v is not what its rows %v agree on", o, rows)
		}
		cost := right(scales.Cost(o))
		if len(rows) > 1<<cost {
			t.Fatalf("%v has %d rows, and %d weighings tell them", o, len(rows), cost)
		}
		met := make([]int, len(rows))
		for _, row := range rows {
			met[right(extend.Rank(o, right(promote.Promote(o, row))))]++
			pairs, told, err := scales.Play(o, row)
			if err != api.OK || len(pairs) > cost || !slices.Equal(told, row) {
				t.Fatalf("%v: %v is weighed out by %v as %v: error %d", o, row, pairs, told, err)
			}
		}
		// Promoted, each row comes from just one.
		if slices.Contains(met, 0) {
			t.Fatalf("%v: promoted, its rows come to %v", o, met)
		}
	}
}

func TestWhatWorkersDoIsAnOrder(t *testing.T) {
	for _, h := range samples.Happenings(300) {
		o := right(clock.Ahead(h.Workers, h.Events))
		if order.Check(o) != api.OK {
			t.Fatalf("%v: Check of %v is %d", h, o, order.Check(o))
		}
		cuts := right(clock.Cuts(h.Workers, h.Events))
		if len(right(order.Ideals(o))) != cuts || right(poly.Value(o, 2)) != cuts || len(right(space.Opens(o))) != cuts {
			t.Fatalf("%v: of %v there are %d cuts", h, o, cuts)
		}
		heights := right(level.Heights(o))
		for event, tick := range right(clock.Ticks(h.Workers, h.Events)) {
			if tick != heights[event]+1 {
				t.Fatalf("%v: event %d of %v has %d ticks", h, event, o, tick)
			}
		}
		// What happens happens in a row: the first one, as it is numbered so.
		if row := right(extend.Nth(o, 0)); !slices.IsSorted(row) {
			t.Fatalf("%v: the first row of %v is %v", h, o, row)
		}
		put, _, err := desk.Run(api.Desk{}, "put o "+shown(o))
		if err != api.OK || !isSame(put.Orders[0], o) {
			t.Fatalf("%v: %v is put as %v: error %d", h, o, put, err)
		}
	}
}
