package samples

import (
	"slices"
	"testing"

	"hasse/api"
)

func TestOrders(t *testing.T) {
	// How many orders n numbered points have is well known.
	for n, want := range []int{1, 1, 3, 19, 219} {
		if got := len(Orders(n)); got != want {
			t.Errorf("%d points: %d orders, want %d", n, got, want)
		}
	}
	if got := len(SmallOrders()); got != 243 {
		t.Errorf("%d small orders", got)
	}
}

func TestGreatOrders(t *testing.T) {
	sizes := map[int]int{}
	for _, o := range GreatOrders(300) {
		sizes[o.N]++
		if len(o.Below) != o.N || o.N < 5 || o.N > api.MaxPoints || !IsOrder(o.Below) {
			t.Errorf("%v is no great order", o)
		}
	}
	if len(sizes) != api.MaxPoints-4 {
		t.Errorf("not of each size: %v", sizes)
	}
}

func TestRoomy(t *testing.T) {
	list, room := Roomy(3, 4)
	if !slices.Equal(list, []int{3, 4}) || len(room) != 12 || &list[0] != &room[0] {
		t.Errorf("Roomy(3, 4) = %v, %v", list, room)
	}
}
