package scales

import (
	"math"
	"math/bits"
	"slices"
	"sync"
	"testing"

	"hasse/api"
	"hasse/canon"
	"hasse/extend"
	"hasse/order"
	"hasse/samples"
)

// below tells an order by its sets.
func below(sets ...int) api.Order { return samples.Below(sets...) }

// tried orders: all of up to four points, and all of five points, numbered any way.
func tried() []api.Order {
	orders := samples.SmallOrders()
	draw := new(samples.Draw)
	for _, natural := range samples.NaturalOrders(5) {
		orders = append(orders, samples.Renumbered(natural, draw))
	}
	return orders
}

// costOf a right order.
func costOf(t *testing.T, o api.Order) int {
	t.Helper()
	got, err := Cost(o)
	if err != api.OK {
		t.Fatalf("Cost(%v): error %d", o, err)
	}
	return got
}

// bestOf a right order.
func bestOf(t *testing.T, o api.Order) ([2]int, bool) {
	t.Helper()
	a, b, found, err := Best(o)
	if err != api.OK {
		t.Fatalf("Best(%v): error %d", o, err)
	}
	return [2]int{a, b}, found
}

// played: a right row.
func played(t *testing.T, o api.Order, hidden []int) ([][2]int, []int) {
	t.Helper()
	pairs, row, err := Play(o, hidden)
	if err != api.OK {
		t.Fatalf("Play(%v, %v): error %d", o, hidden, err)
	}
	return pairs, row
}

// knowing: an order in which some pairs are known, too.
func knowing(t *testing.T, o api.Order, more ...[2]int) api.Order {
	t.Helper()
	pairs := more
	for a := range o.N {
		for b := range o.N {
			if samples.IsBelow(o, a, b) {
				pairs = append(pairs, [2]int{a, b})
			}
		}
	}
	wider, err := order.Make(o.N, pairs)
	if err != api.OK {
		t.Fatalf("%v with %v: error %d", o, more, err)
	}
	return wider
}

// heap of lists that can still be the row: the set of their numbers among all lists of as many points.
type heap [2]uint64

func (h heap) size() int { return bits.OnesCount64(h[0]) + bits.OnesCount64(h[1]) }

// sieve knows nothing of orders: a weighing leaves some lists of a heap, or the others.
type sieve struct {
	n     int
	lists [][]int
	costs map[heap]int
}

func sieveOf(n int) sieve { return sieve{n, samples.Lists(n), map[heap]int{}} }

// all lists of which something is so.
func (s sieve) all(isSo func(list []int) bool) heap {
	var h heap
	for i, list := range s.lists {
		if isSo(list) {
			h[i/64] |= 1 << (i % 64)
		}
	}
	return h
}

// parted: the lists of a heap in which a stands ahead of b, and the others.
func (s sieve) parted(h heap, a, b int) (ahead, behind heap) {
	ahead = s.all(func(list []int) bool { return samples.Stands(list, a, b) })
	for i := range h {
		ahead[i] &= h[i]
		behind[i] = h[i] &^ ahead[i]
	}
	return ahead, behind
}

// cost of a heap, till one list is left.
func (s sieve) cost(h heap) int {
	if h.size() < 2 {
		return 0
	}
	if cost, met := s.costs[h]; met {
		return cost
	}
	least := math.MaxInt
	for a := range s.n {
		for b := a + 1; b < s.n; b++ {
			if cost, splits := s.beginning(h, a, b); splits {
				least = min(least, cost)
			}
		}
	}
	s.costs[h] = least
	return least
}

// beginning with a pair, what does a heap cost? Where all lists tell the same, one is as wise as before.
func (s sieve) beginning(h heap, a, b int) (int, bool) {
	ahead, behind := s.parted(h, a, b)
	if ahead.size() == 0 || behind.size() == 0 {
		return 0, false
	}
	return 1 + max(s.cost(ahead), s.cost(behind)), true
}

// best pair to begin with: the first one that costs no more than it must.
func (s sieve) best(h heap) ([2]int, bool) {
	for a := range s.n {
		for b := a + 1; b < s.n; b++ {
			if cost, splits := s.beginning(h, a, b); splits && cost == s.cost(h) {
				return [2]int{a, b}, true
			}
		}
	}
	return [2]int{}, false
}

// sieves for up to five points.
func sieves() []sieve {
	var all []sieve
	for n := range 6 {
		all = append(all, sieveOf(n))
	}
	return all
}

func TestAA1(t *testing.T) {
	for _, c := range []struct {
		name  string
		o     api.Order
		cost  int
		best  [2]int
		found bool
	}{
		{"no points", below(), 0, [2]int{}, false},
		{"no points, none at all", api.Order{}, 0, [2]int{}, false},
		{"one point", below(0), 0, [2]int{}, false},
		{"two apart", below(0, 0), 1, [2]int{0, 1}, true},
		{"two in a chain", below(0, 1), 0, [2]int{}, false},
		{"two in a chain, the other way round", below(2, 0), 0, [2]int{}, false},
		{"three apart", below(0, 0, 0), 3, [2]int{0, 1}, true},
		{"one beside two", below(0, 1, 0), 2, [2]int{0, 2}, true},
		{"two above one", below(2, 0, 2), 1, [2]int{0, 2}, true},
		{"four apart", below(0, 0, 0, 0), 5, [2]int{0, 1}, true},
		{"two pairs", below(0, 1, 0, 4), 3, [2]int{0, 2}, true},
		{"a zigzag", below(0, 0, 3, 2), 3, [2]int{0, 1}, true},
		{"one beside three: the middle one first", below(0, 1, 3, 0), 2, [2]int{1, 3}, true},
		{"five apart", below(0, 0, 0, 0, 0), 7, [2]int{0, 1}, true},
		{"five in a chain", below(0, 1, 3, 7, 15), 0, [2]int{}, false},
		{"five in a chain, the other way round", below(30, 28, 24, 16, 0), 0, [2]int{}, false},
		{"one beside four", below(0, 1, 3, 7, 0), 3, [2]int{0, 4}, true},
		{"two beside three", below(0, 1, 3, 0, 8), 4, [2]int{0, 3}, true},
		{"two above the others", below(0, 0, 0, 7, 7), 4, [2]int{0, 1}, true},
		{"the last two are open", below(0, 1, 3, 7, 7), 1, [2]int{3, 4}, true},
		{"eight rows, but three weighings are too few", below(0, 0, 1, 7, 3), 4, [2]int{0, 1}, true},
	} {
		if got := costOf(t, c.o); got != c.cost {
			t.Errorf("%s: Cost(%v) = %d, want %d", c.name, c.o, got, c.cost)
		}
		if got, found := bestOf(t, c.o); got != c.best || found != c.found {
			t.Errorf("%s: Best(%v) = %v, %v, want %v, %v", c.name, c.o, got, found, c.best, c.found)
		}
	}
}

func TestAA1CostAndBestByRowsAlone(t *testing.T) {
	all := sieves()
	later, dear := 0, 0
	for _, o := range tried() {
		s := all[o.N]
		h := s.all(func(list []int) bool { return samples.IsRow(o, list) })
		if got, want := costOf(t, o), s.cost(h); got != want {
			t.Fatalf("Cost(%v) = %d, want %d", o, got, want)
		}
		got, found := bestOf(t, o)
		want, splits := s.best(h)
		if got != want || found != splits {
			t.Fatalf("Best(%v) = %v, %v, want %v, %v", o, got, found, want, splits)
		}
		// Not always is the first pair that is open the best one.
		for a := range got[0] + 1 {
			for b := a + 1; b < o.N && found && (a < got[0] || b < got[1]); b++ {
				if !samples.IsBelow(o, a, b) && !samples.IsBelow(o, b, a) {
					later++
				}
			}
		}
		if h.size() <= 1<<s.cost(h)/2 {
			dear++
		}
	}
	if later < 100 {
		t.Errorf("%d pairs are open, but not good enough to begin with", later)
	}
	// Some have so few rows that by their number alone one weighing less would do.
	if dear == 0 {
		t.Errorf("no order costs more than by how many rows it has")
	}
}

func TestAA1Play(t *testing.T) {
	for _, c := range []struct {
		name   string
		o      api.Order
		hidden []int
		want   [][2]int
	}{
		{"no points", below(), nil, nil},
		{"no points", below(), []int{}, nil},
		{"one point", below(0), []int{0}, nil},
		{"a chain is told already", below(2, 0), []int{1, 0}, nil},
		{"two apart", below(0, 0), []int{0, 1}, [][2]int{{0, 1}}},
		{"two apart, the greater one ahead", below(0, 0), []int{1, 0}, [][2]int{{1, 0}}},
		{"three apart, told early", below(0, 0, 0), []int{2, 0, 1}, [][2]int{{0, 1}, {2, 0}}},
		{"three apart, told late", below(0, 0, 0), []int{0, 2, 1}, [][2]int{{0, 1}, {0, 2}, {2, 1}}},
		{"a zigzag, told early", below(0, 0, 3, 2), []int{1, 3, 0, 2}, [][2]int{{1, 0}, {3, 0}}},
		{"a zigzag, told late", below(0, 0, 3, 2), []int{1, 0, 3, 2}, [][2]int{{1, 0}, {0, 3}, {3, 2}}},
		{"one beside three", below(0, 1, 3, 0), []int{0, 3, 1, 2}, [][2]int{{3, 1}, {0, 3}}},
		{"two beside three", below(0, 1, 3, 0, 8), []int{3, 0, 1, 4, 2}, [][2]int{{3, 0}, {1, 4}, {4, 2}}},
		{"five apart, told early", below(0, 0, 0, 0, 0), []int{4, 0, 1, 2, 3}, [][2]int{{0, 1}, {2, 3}, {0, 2}, {4, 2}, {4, 0}, {1, 2}}},
		{"five apart, told late", below(0, 0, 0, 0, 0), []int{0, 1, 2, 3, 4}, [][2]int{{0, 1}, {2, 3}, {0, 2}, {2, 4}, {3, 4}, {1, 3}, {1, 2}}},
		{"five apart, the greater ones ahead", below(0, 0, 0, 0, 0), []int{4, 3, 2, 1, 0}, [][2]int{{1, 0}, {3, 2}, {2, 0}, {4, 2}, {4, 3}, {3, 1}, {2, 1}}},
	} {
		pairs, row := played(t, c.o, c.hidden)
		if !slices.Equal(pairs, c.want) || !slices.Equal(row, c.hidden) {
			t.Errorf("%s: Play(%v, %v) = %v, %v, want %v", c.name, c.o, c.hidden, pairs, row, c.want)
		}
	}
}

func TestAA1PlayByItsWords(t *testing.T) {
	for _, o := range tried() {
		cost, most := costOf(t, o), 0
		rows := samples.RowsOf(o)
		// Of orders of five points with many rows some are enough to try, but then the worst need not be among them.
		step := max(1, len(rows)/12)
		for i := 0; i < len(rows); i += step {
			pairs, row := played(t, o, rows[i])
			if !slices.Equal(row, rows[i]) || len(pairs) > cost {
				t.Fatalf("Play(%v, %v) = %v, %v, but it costs %d", o, rows[i], pairs, row, cost)
			}
			most = max(most, len(pairs))
			for k, pair := range pairs {
				best, found := bestOf(t, knowing(t, o, pairs[:k:k]...))
				if !found || best != [2]int{min(pair[0], pair[1]), max(pair[0], pair[1])} || !samples.Stands(rows[i], pair[0], pair[1]) {
					t.Fatalf("Play(%v, %v) = %v, but the best one behind %v is %v", o, rows[i], pairs, pairs[:k], best)
				}
			}
			if _, found := bestOf(t, knowing(t, o, pairs...)); found {
				t.Fatalf("Play(%v, %v) = %v, but the row is not told by then", o, rows[i], pairs)
			}
		}
		if step == 1 && most != cost {
			t.Fatalf("%v costs %d, but no row takes more than %d", o, cost, most)
		}
	}
}

func TestAA1PlayAllRowsOfFiveApart(t *testing.T) {
	o := below(0, 0, 0, 0, 0)
	told := map[int]int{}
	for _, row := range samples.RowsOf(o) {
		pairs, got := played(t, o, row)
		if !slices.Equal(got, row) {
			t.Fatalf("Play(%v, %v) = %v, %v", o, row, pairs, got)
		}
		told[len(pairs)]++
	}
	// Each weighing has two outcomes, so what is told by 6 counts as two of the 128 that 7 weighings can tell: 2 times 8 and 112.
	if len(told) != 2 || told[6] != 8 || told[7] != 112 {
		t.Errorf("how many rows are told by how many weighings: %v", told)
	}
}

func TestAA2ManyRowsCostMuch(t *testing.T) {
	for _, o := range tried() {
		count, err := extend.Count(o)
		if cost := costOf(t, o); err != api.OK || 1<<cost < count || (cost == 0) != (count == 1) {
			t.Fatalf("%v has %d rows, error %d, and costs %d", o, count, err, cost)
		}
	}
}

func TestAA2WhatIsKnownMoreCostsNoMore(t *testing.T) {
	less, same := 0, 0
	for _, o := range tried() {
		cost := costOf(t, o)
		for a := range o.N {
			for b := range o.N {
				if a == b || samples.IsBelow(o, b, a) {
					continue
				}
				got := costOf(t, knowing(t, o, [2]int{a, b}))
				if got > cost || got < cost-1 && costOf(t, knowing(t, o, [2]int{b, a})) < cost-1 {
					t.Fatalf("%v costs %d, with %d ahead of %d it costs %d", o, cost, a, b, got)
				}
				if got < cost {
					less++
				} else if !samples.IsBelow(o, a, b) {
					same++
				}
			}
		}
	}
	if less < 100 || same < 100 {
		t.Errorf("what is known more costs less %d times, and as much %d times", less, same)
	}
}

func TestAA2Demuth(t *testing.T) {
	for n, want := range []int{0, 0, 1, 3, 5, 7} {
		if got := costOf(t, below(make([]int, n)...)); got != want {
			t.Errorf("%d points of which nothing is known cost %d, want %d", n, got, want)
		}
	}
}

func TestTheWholeFormsAndDualsCostTheSame(t *testing.T) {
	for _, o := range tried() {
		form, _, err := canon.Form(o)
		dual, err2 := order.Dual(o)
		cost := costOf(t, o)
		if err != api.OK || err2 != api.OK || costOf(t, form) != cost || costOf(t, dual) != cost {
			t.Fatalf("%v costs %d, its form %v or its dual %v something else", o, cost, form, dual)
		}
		if best, found := bestOf(t, o); found {
			if other, _ := bestOf(t, dual); other != best {
				t.Fatalf("%v is best begun with %v, turned over with %v", o, best, other)
			}
		}
	}
}

// isRefused: all calls tell the error and nothing else.
func isRefused(t *testing.T, o api.Order, hidden []int, want api.Errno) {
	t.Helper()
	if got, err := Cost(o); err != want || got != 0 {
		t.Errorf("Cost(%v) = %d, error %d, want error %d", o, got, err, want)
	}
	if a, b, found, err := Best(o); err != want || a != 0 || b != 0 || found {
		t.Errorf("Best(%v) = %d, %d, %v, error %d, want error %d", o, a, b, found, err, want)
	}
	isNoPlay(t, o, hidden, want)
}

// isNoPlay: Play tells the error and nothing else.
func isNoPlay(t *testing.T, o api.Order, hidden []int, want api.Errno) {
	t.Helper()
	if pairs, row, err := Play(o, hidden); err != want || pairs != nil || row != nil {
		t.Errorf("Play(%v, %v) = %v, %v, error %d, want error %d", o, hidden, pairs, row, err, want)
	}
}

func TestA1CheckIsToldFirst(t *testing.T) {
	for _, w := range samples.WrongOrders() {
		for _, list := range [][]int{nil, {0}, {0, 1}, {1, 0}, {0, 1, 2}, {-1}, {0, 0}, make([]int, 11)} {
			isRefused(t, w.Order, list, w.Err)
		}
	}
	// More points than may be weighed out, but that is told later.
	isRefused(t, below(0, 0, 0, 0, 0, 64), []int{0, 1, 2, 3, 4, 5}, api.ErrRange)
	isRefused(t, below(0, 0, 0, 0, 0, 32), []int{0, 1, 2, 3, 4, 5}, api.ErrState)
	isRefused(t, api.Order{N: 6}, nil, api.ErrForm)
}

func TestAA1TooMany(t *testing.T) {
	for n := 6; n <= 10; n++ {
		apart, chain := below(make([]int, n)...), below(samples.Rising().Below[:n]...)
		for _, o := range []api.Order{apart, chain} {
			// Whether the list is a row is asked later.
			for _, list := range [][]int{nil, {0}, {5, 4, 3, 2, 1, 0}, {0, 1, 2, 3, 4, 5}, {0, 1, 2, 3, 4, 5, 6, 7, 8, 9}, {-1}, make([]int, 100)} {
				isRefused(t, o, list, api.ErrMany)
			}
		}
	}
}

func TestAA1NoRow(t *testing.T) {
	tried := 0
	for _, no := range samples.NoRows() {
		if no.Order.N <= api.MaxScales {
			isNoPlay(t, no.Order, no.List, api.ErrForm)
			tried++
		}
	}
	if tried < 10 {
		t.Errorf("%d lists that are no rows", tried)
	}
	for _, o := range samples.SmallOrders() {
		rows := samples.RowsOf(o)
		for _, list := range samples.Maps(o.N, o.N) {
			if !slices.ContainsFunc(rows, func(row []int) bool { return slices.Equal(row, list) }) {
				isNoPlay(t, o, list, api.ErrForm)
			}
		}
	}
	isNoPlay(t, below(0, 0, 0, 0, 16), []int{0, 1, 2, 3, 4}, api.ErrState)
	isNoPlay(t, below(0, 0, 0, 0, 8), []int{0, 1, 2, 4, 3}, api.ErrForm)
	isNoPlay(t, below(0, 0, 0, 0, 8), []int{0, 1, 2, 3, 5}, api.ErrForm)
}

func TestP2P3OnlyReadAndTheSameEachTime(t *testing.T) {
	for _, one := range []struct {
		o   api.Order
		row []int
	}{{below(), nil}, {below(0), []int{0}}, {below(0, 0, 3, 2), []int{1, 0, 3, 2}}, {below(0, 0, 0, 0, 0), []int{4, 3, 2, 1, 0}}, {below(0, 1, 3, 7, 15), []int{0, 1, 2, 3, 4}}} {
		sets, setsRoom := samples.Roomy(one.o.Below...)
		hidden, hiddenRoom := samples.Roomy(one.row...)
		o := below(sets...)
		before := slices.Concat(setsRoom, hiddenRoom)
		cost := costOf(t, one.o)
		best, found := bestOf(t, one.o)
		weighed, _ := played(t, one.o, one.row)
		for range 3 {
			gotBest, gotFound := bestOf(t, o)
			pairs, row := played(t, o, hidden)
			if costOf(t, o) != cost || gotBest != best || gotFound != found || !slices.Equal(pairs, weighed) || !slices.Equal(row, one.row) {
				t.Fatalf("%v, %v: %v, %v, %v, %v", o, hidden, gotBest, gotFound, pairs, row)
			}
			if samples.Shared(row, sets, hidden) || !slices.Equal(before, slices.Concat(setsRoom, hiddenRoom)) {
				t.Fatalf("%v or %v was changed, or is shared", o, hidden)
			}
			samples.Spoil(row)
			clear(pairs[:cap(pairs)])
		}
	}
}

func TestP3AskedByManyAtOnce(t *testing.T) {
	o := below(0, 0, 0, 0, 0)
	rows := samples.RowsOf(o)
	wrong := make([]int, len(rows))
	var group sync.WaitGroup
	for i, row := range rows {
		group.Go(func() {
			if pairs, got, err := Play(o, row); err != api.OK || !slices.Equal(got, row) || len(pairs) < 6 || len(pairs) > 7 {
				wrong[i] = 1
			}
		})
	}
	group.Wait()
	if slices.Contains(wrong, 1) {
		t.Errorf("who was told something else: %v", wrong)
	}
}
