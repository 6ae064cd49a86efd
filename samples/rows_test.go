package samples

import (
	"slices"
	"testing"
)

func TestLists(t *testing.T) {
	for n, want := range []int{1, 1, 2, 6, 24, 120} {
		all := Lists(n)
		if len(all) != want || !slices.IsSortedFunc(all, slices.Compare) {
			t.Errorf("Lists(%d) = %v", n, all)
		}
		for i, list := range all {
			sorted := slices.Sorted(slices.Values(list))
			for point := range n {
				if len(list) != n || sorted[point] != point {
					t.Fatalf("%v has not each of %d points once", list, n)
				}
			}
			if i > 0 && slices.Equal(all[i-1], list) {
				t.Fatalf("%v comes twice", list)
			}
		}
	}
}

func TestRowsOf(t *testing.T) {
	o := Below(0, 0, 3, 2)
	want := [][]int{{0, 1, 2, 3}, {0, 1, 3, 2}, {1, 0, 2, 3}, {1, 0, 3, 2}, {1, 3, 0, 2}}
	if got := RowsOf(o); !slices.EqualFunc(got, want, slices.Equal) {
		t.Errorf("RowsOf(%v) = %v", o, got)
	}
	if !Stands(want[4], 3, 0) || Stands(want[4], 0, 3) || Stands(want[4], 0, 0) {
		t.Errorf("who stands ahead in %v is told otherwise", want[4])
	}
	if IsRow(o, []int{0, 2, 1, 3}) || !IsRow(o, want[2]) {
		t.Error("0 2 1 3 has 2 ahead of 1, which is below it")
	}
}

func TestRenamed(t *testing.T) {
	o := Below(0, 0, 3, 2)
	for _, names := range Lists(4) {
		other := Named(o, names)
		for a := range 4 {
			for b := range 4 {
				if IsBelow(o, a, b) != IsBelow(other, names[a], names[b]) {
					t.Fatalf("%v by the names %v is not %v", o, names, other)
				}
			}
		}
		if list := Renamed([]int{3, 0, 3}, names); !slices.Equal(list, []int{names[3], names[0], names[3]}) {
			t.Fatalf("3 0 3 by the names %v is not %v", names, list)
		}
	}
}

func TestDrawnRow(t *testing.T) {
	draw := new(Draw)
	for _, o := range append(SmallOrders(), Apart(), Rising(), Falling(), Storeys()) {
		for range 20 {
			row := DrawnRow(o, draw)
			met := 0
			for _, point := range row {
				met |= 1 << point
			}
			if met != 1<<o.N-1 || len(row) != o.N || !IsRow(o, row) {
				t.Fatalf("%v is no row of %v", row, o)
			}
		}
	}
	o := Below(0, 0, 3, 2)
	met := map[[4]int]int{}
	for range 1000 {
		met[[4]int(DrawnRow(o, draw))]++
	}
	if len(met) != 5 {
		t.Errorf("of the five rows of %v these are drawn: %v", o, met)
	}
}

func TestNoRows(t *testing.T) {
	for _, no := range NoRows() {
		if !IsOrder(no.Order.Below) {
			t.Errorf("%v is no order", no.Order)
		}
		if no.Order.N < 5 && slices.ContainsFunc(RowsOf(no.Order), func(row []int) bool { return slices.Equal(row, no.List) }) {
			t.Errorf("%v is a row of %v", no.List, no.Order)
		}
	}
}
