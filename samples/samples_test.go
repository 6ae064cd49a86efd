package samples

import (
	"slices"
	"testing"

	"hasse/api"
)

func TestOrders(t *testing.T) {
	// How many orders n numbered points have is well known.
	for n, want := range []int{1, 1, 3, 19, 219} {
		if got := len(Orders(n)); got != want {
			t.Errorf("%d points: %d orders, want %d", n, got, want)
		}
	}
	if got := len(SmallOrders()); got != 243 {
		t.Errorf("%d small orders", got)
	}
}

func TestGreatest(t *testing.T) {
	for _, c := range []struct {
		o    api.Order
		want int
	}{{Apart(), 0}, {Rising(), 45}, {Falling(), 45}, {Storeys(), 40}} {
		count := 0
		for a := range c.o.N {
			for b := range c.o.N {
				if IsBelow(c.o, a, b) {
					count++
				}
			}
		}
		if c.o.N != api.MaxPoints || !IsOrder(c.o.Below) || count != c.want {
			t.Errorf("%v has %d pairs, want %d", c.o, count, c.want)
		}
	}
}

func TestNaturalOrders(t *testing.T) {
	// How many there are is well known, too.
	for n, want := range []int{1, 1, 2, 7, 40, 357, 4824} {
		orders := NaturalOrders(n)
		if len(orders) != want {
			t.Errorf("%d points: %d orders, want %d", n, len(orders), want)
		}
		for _, o := range orders {
			for b, set := range o.Below {
				if set >= 1<<b {
					t.Fatalf("%v has a greater number below %d", o, b)
				}
			}
		}
	}
}

func TestRenumbered(t *testing.T) {
	met := map[[4]int]int{}
	draw := new(Draw)
	for range 1000 {
		o := Renumbered(Below(0, 1, 3, 0), draw)
		if !IsOrder(o.Below) {
			t.Fatalf("%v is no order", o)
		}
		met[[4]int(o.Below)]++
	}
	// Any of four may be the one apart, and the others go up in any of six ways.
	if len(met) != 24 {
		t.Errorf("%d orders: %v", len(met), met)
	}
}

func TestSpoil(t *testing.T) {
	list, room := Roomy(3, 4)
	Spoil(list)
	for _, number := range room {
		if number != -5 {
			t.Errorf("left: %v", room)
		}
	}
}

func TestGreatOrders(t *testing.T) {
	sizes := map[int]int{}
	for _, o := range GreatOrders(300) {
		sizes[o.N]++
		if len(o.Below) != o.N || o.N < 5 || o.N > api.MaxPoints || !IsOrder(o.Below) {
			t.Errorf("%v is no great order", o)
		}
	}
	if len(sizes) != api.MaxPoints-4 {
		t.Errorf("not of each size: %v", sizes)
	}
}

func TestRoomy(t *testing.T) {
	list, room := Roomy(3, 4)
	if !slices.Equal(list, []int{3, 4}) || len(room) != 12 || &list[0] != &room[0] {
		t.Errorf("Roomy(3, 4) = %v, %v", list, room)
	}
}

func TestShared(t *testing.T) {
	whole := []int{1, 2, 3, 4, 5}
	for _, c := range []struct {
		lists [][]int
		want  bool
	}{
		{nil, false},
		{[][]int{whole}, false},
		{[][]int{whole, nil, {}, {1, 2, 3}}, false},
		{[][]int{whole, whole}, true},
		{[][]int{{1}, whole[:1], whole[4:]}, true},
		{[][]int{whole[:1:1], whole[1:2:2], whole[2:]}, false},
		{[][]int{whole[3:], {7}, whole[:0]}, true},
	} {
		if Shared(c.lists...) != c.want || !slices.Equal(whole, []int{1, 2, 3, 4, 5}) {
			t.Errorf("Shared(%v) = %v, and %v", c.lists, !c.want, whole)
		}
	}
}
