package extend

import (
	"math"
	"slices"
	"testing"

	"hasse/api"
	"hasse/order"
	"hasse/samples"
)

// below tells an order by its sets.
func below(sets ...int) api.Order { return samples.Below(sets...) }

// tried orders have few enough points for all their lists to be looked through: all small ones, and some of five and six points.
func tried() []api.Order {
	orders := samples.SmallOrders()
	for _, o := range samples.GreatOrders(200) {
		if o.N <= 6 {
			orders = append(orders, o)
		}
	}
	return orders
}

func TestF1Count(t *testing.T) {
	for _, c := range []struct {
		o    api.Order
		want int
	}{
		{api.Order{}, 1},
		{below(0), 1},
		{below(0, 0), 2},
		{below(2, 0), 1},
		{below(0, 0, 0), 6},
		{below(0, 0, 3, 2), 5},
		{below(0, 1, 0, 4), 6},
		{samples.Apart(), 3628800},
		{samples.Rising(), 1},
		{samples.Falling(), 1},
		{samples.Storeys(), 32},
		// Pairs, one below the other: 10! / 2^5.
		{below(0, 1, 0, 4, 0, 16, 0, 64, 0, 256), 113400},
		// Two rows of five, each of the upper ones above its lower one and what is left of it: a number of Catalan.
		{below(0, 1, 3, 7, 15, 1, 35, 103, 239, 511), 42},
	} {
		if got, err := Count(c.o); err != api.OK || got != c.want {
			t.Errorf("Count(%v) = %d, error %d, want %d", c.o, got, err, c.want)
		}
	}
}

func TestF1AllRows(t *testing.T) {
	for _, o := range tried() {
		rows := samples.RowsOf(o)
		if got, err := Count(o); err != api.OK || got != len(rows) {
			t.Fatalf("Count(%v) = %d, error %d, want %d", o, got, err, len(rows))
		}
		for k, row := range rows {
			if got, err := Nth(o, k); err != api.OK || !slices.Equal(got, row) {
				t.Fatalf("Nth(%v, %d) = %v, error %d, want %v", o, k, got, err, row)
			}
			if got, err := Rank(o, row); err != api.OK || got != k {
				t.Fatalf("Rank(%v, %v) = %d, error %d, want %d", o, row, got, err, k)
			}
		}
	}
}

func TestF1Nth(t *testing.T) {
	for _, c := range []struct {
		o    api.Order
		k    int
		want []int
		err  api.Errno
	}{
		{api.Order{}, 0, nil, api.OK},
		{api.Order{}, 1, nil, api.ErrRange},
		{api.Order{}, -1, nil, api.ErrRange},
		{below(0, 0, 0), 3, []int{1, 2, 0}, api.OK},
		{below(0, 0, 0), 5, []int{2, 1, 0}, api.OK},
		{below(0, 0, 0), 6, nil, api.ErrRange},
		{below(0, 0, 0), -1, nil, api.ErrRange},
		{below(0, 0, 0), math.MinInt, nil, api.ErrRange},
		{below(0, 0, 0), math.MaxInt, nil, api.ErrRange},
		{below(2, 0), 1, nil, api.ErrRange},
		{samples.Apart(), 3628799, []int{9, 8, 7, 6, 5, 4, 3, 2, 1, 0}, api.OK},
		{samples.Apart(), 3628800, nil, api.ErrRange},
		{samples.Falling(), 0, []int{9, 8, 7, 6, 5, 4, 3, 2, 1, 0}, api.OK},
		{samples.Storeys(), 31, []int{1, 0, 3, 2, 5, 4, 7, 6, 9, 8}, api.OK},
	} {
		if got, err := Nth(c.o, c.k); err != c.err || !slices.Equal(got, c.want) {
			t.Errorf("Nth(%v, %d) = %v, error %d, want %v, error %d", c.o, c.k, got, err, c.want, c.err)
		}
	}
}

func TestF1RankOfNoRow(t *testing.T) {
	for _, c := range samples.NoRows() {
		if got, err := Rank(c.Order, c.List); err != api.ErrForm || got != 0 {
			t.Errorf("Rank(%v, %v) = %d, error %d, want error %d", c.Order, c.List, got, err, api.ErrForm)
		}
	}
	for _, o := range tried() {
		if o.N > 5 {
			continue
		}
		for _, list := range samples.Lists(o.N) {
			if _, err := Rank(o, list); (err == api.OK) != samples.IsRow(o, list) || err != api.OK && err != api.ErrForm {
				t.Fatalf("Rank(%v, %v): error %d", o, list, err)
			}
		}
	}
}

func TestF2(t *testing.T) {
	for _, c := range []struct {
		o           api.Order
		a, b, c     int
		ahead, both int
	}{
		{below(0), 0, 0, 0, 0, 0},
		{below(0, 0), 0, 1, 1, 1, 1},
		{below(0, 0), 0, 1, 0, 1, 0},
		{below(0, 0), 0, 0, 1, 0, 0},
		{below(0, 1), 0, 1, 1, 1, 1},
		{below(0, 1), 1, 0, 0, 0, 0},
		{below(0, 0, 0), 0, 1, 2, 3, 2},
		{below(0, 0, 0), 2, 1, 0, 3, 2},
		{below(0, 0, 0), 2, 1, 1, 3, 3},
		{below(0, 0, 3, 2), 0, 1, 2, 2, 2},
		{below(0, 0, 3, 2), 0, 3, 1, 4, 2},
		{samples.Apart(), 9, 0, 4, 1814400, 1209600},
		{samples.Falling(), 9, 0, 4, 1, 1},
		{samples.Falling(), 9, 0, 9, 1, 0},
		{samples.Storeys(), 1, 0, 9, 16, 16},
	} {
		if got, err := Ahead(c.o, c.a, c.b); err != api.OK || got != c.ahead {
			t.Errorf("Ahead(%v, %d, %d) = %d, error %d, want %d", c.o, c.a, c.b, got, err, c.ahead)
		}
		if got, err := Both(c.o, c.a, c.b, c.c); err != api.OK || got != c.both {
			t.Errorf("Both(%v, %d, %d, %d) = %d, error %d, want %d", c.o, c.a, c.b, c.c, got, err, c.both)
		}
	}
}

// counted among rows.
func counted(rows [][]int, ask func([]int) bool) int {
	count := 0
	for _, row := range rows {
		if ask(row) {
			count++
		}
	}
	return count
}

func TestF2ByAllRows(t *testing.T) {
	for _, o := range tried() {
		rows := samples.RowsOf(o)
		for a := range o.N {
			for b := range o.N {
				want := counted(rows, func(row []int) bool { return samples.Stands(row, a, b) })
				if got, err := Ahead(o, a, b); err != api.OK || got != want {
					t.Fatalf("Ahead(%v, %d, %d) = %d, error %d, want %d", o, a, b, got, err, want)
				}
				for c := range o.N {
					want := counted(rows, func(row []int) bool { return samples.Stands(row, a, b) && samples.Stands(row, a, c) })
					if got, err := Both(o, a, b, c); err != api.OK || got != want {
						t.Fatalf("Both(%v, %d, %d, %d) = %d, error %d, want %d", o, a, b, c, got, err, want)
					}
				}
			}
		}
	}
}

func TestF2NoPoint(t *testing.T) {
	for _, o := range []api.Order{{}, below(0), below(0, 1, 0), samples.Apart()} {
		for _, no := range []int{-1, o.N, 10, 63, 64, math.MinInt, math.MaxInt} {
			for _, p := range [][2]int{{no, 0}, {0, no}, {no, no}} {
				if got, err := Ahead(o, p[0], p[1]); err != api.ErrRange || got != 0 {
					t.Errorf("Ahead(%v, %v) = %d, error %d", o, p, got, err)
				}
			}
			for _, p := range [][3]int{{no, 0, 0}, {0, no, 0}, {0, 0, no}, {no, no, no}} {
				if got, err := Both(o, p[0], p[1], p[2]); err != api.ErrRange || got != 0 {
					t.Errorf("Both(%v, %v) = %d, error %d", o, p, got, err)
				}
			}
		}
	}
}

func TestF3RowsAndNumbers(t *testing.T) {
	for _, o := range append(samples.GreatOrders(300), samples.Apart(), samples.Falling(), samples.Storeys()) {
		count, err := Count(o)
		if err != api.OK || count < 1 {
			t.Fatalf("Count(%v) = %d, error %d", o, count, err)
		}
		var last []int
		for k := 0; k < count; k += 1 + count/50 {
			row, err := Nth(o, k)
			sorted := slices.Sorted(slices.Values(row))
			for p := range sorted {
				if sorted[p] != p {
					t.Fatalf("Nth(%v, %d) = %v has not each point once", o, k, row)
				}
			}
			if err != api.OK || len(row) != o.N || !samples.IsRow(o, row) || slices.Compare(last, row) >= 0 {
				t.Fatalf("Nth(%v, %d) = %v, error %d, behind %v", o, k, row, err, last)
			}
			if got, err := Rank(o, row); err != api.OK || got != k {
				t.Fatalf("Rank(%v, %v) = %d, error %d, want %d", o, row, got, err, k)
			}
			last = row
		}
	}
}

func TestF3SideBySide(t *testing.T) {
	small := samples.SmallOrders()
	for i, a := range small {
		for _, b := range small[i%7*30:] {
			beside, _ := order.Beside(a, b)
			got, err := Count(beside)
			x, _ := Count(a)
			y, _ := Count(b)
			// In how many ways a's places can be chosen.
			ways := 1
			for k := range a.N {
				ways = ways * (b.N + k + 1) / (k + 1)
			}
			if err != api.OK || got != ways*x*y {
				t.Fatalf("%v beside %v: %d rows, error %d, want %d", a, b, got, err, ways*x*y)
			}
		}
	}
}

func TestF3Shepp(t *testing.T) {
	orders := append(samples.GreatOrders(40), samples.Apart(), samples.Storeys(), samples.Falling())
	for _, o := range append(orders, samples.SmallOrders()...) {
		count, _ := Count(o)
		for a := range o.N {
			for b := range o.N {
				first, _ := Ahead(o, a, b)
				other, _ := Ahead(o, b, a)
				if a != b && first+other != count {
					t.Fatalf("%v: %d ahead of %d in %d rows, behind it in %d, of %d", o, a, b, first, other, count)
				}
				for c := range b {
					second, _ := Ahead(o, a, c)
					both, _ := Both(o, a, b, c)
					if a != b && a != c && first*second > both*count {
						t.Fatalf("%v: %d ahead of %d: %d, of %d: %d, of both: %d, of %d", o, a, b, first, c, second, both, count)
					}
				}
			}
		}
	}
}

func TestA1CheckIsToldFirst(t *testing.T) {
	for _, w := range samples.WrongOrders() {
		if got, err := Count(w.Order); err != w.Err || got != 0 {
			t.Errorf("Count(%v) = %d, error %d, want error %d", w.Order, got, err, w.Err)
		}
		for _, k := range []int{-1, 0} {
			if got, err := Nth(w.Order, k); err != w.Err || got != nil {
				t.Errorf("Nth(%v, %d) = %v, error %d, want error %d", w.Order, k, got, err, w.Err)
			}
			if got, err := Ahead(w.Order, k, 0); err != w.Err || got != 0 {
				t.Errorf("Ahead(%v, %d, 0) = %d, error %d, want error %d", w.Order, k, got, err, w.Err)
			}
			if got, err := Both(w.Order, 0, 0, k); err != w.Err || got != 0 {
				t.Errorf("Both(%v, 0, 0, %d) = %d, error %d, want error %d", w.Order, k, got, err, w.Err)
			}
		}
		for _, row := range [][]int{nil, {0, 1}, {5}} {
			if got, err := Rank(w.Order, row); err != w.Err || got != 0 {
				t.Errorf("Rank(%v, %v) = %d, error %d, want error %d", w.Order, row, got, err, w.Err)
			}
		}
	}
}

func TestP2P3OnlyReadAndTheSameEachTime(t *testing.T) {
	list, room := samples.Roomy(0, 0, 3, 2)
	row, rowRoom := samples.Roomy(1, 0, 3, 2)
	before, rowBefore := slices.Clone(room), slices.Clone(rowRoom)
	o := below(list...)
	for range 3 {
		count, _ := Count(o)
		ahead, _ := Ahead(o, 0, 1)
		back, _ := Ahead(o, 2, 0)
		both, _ := Both(o, 0, 3, 1)
		rank, _ := Rank(o, row)
		if count != 5 || ahead != 2 || back != 0 || both != 2 || rank != 3 {
			t.Errorf("%v: %d %d %d %d %d", o, count, ahead, back, both, rank)
		}
		got, err := Nth(o, 3)
		if err != api.OK || !slices.Equal(got, []int{1, 0, 3, 2}) {
			t.Errorf("Nth(%v, 3) = %v, error %d", o, got, err)
		}
		samples.Spoil(got)
	}
	if !slices.Equal(room, before) || !slices.Equal(rowRoom, rowBefore) {
		t.Errorf("what was handed in was changed: %v, %v", room, rowRoom)
	}
}
