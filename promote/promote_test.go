package promote

import (
	"slices"
	"testing"

	"hasse/api"
	"hasse/extend"
	"hasse/order"
	"hasse/samples"
)

// below tells an order by its sets.
func below(sets ...int) api.Order { return samples.Below(sets...) }

// trial: an order and rows of it.
type trial struct {
	o    api.Order
	rows [][]int
}

// trials: all rows of the orders of up to five points, and some of greater ones.
func trials() []trial {
	var all []trial
	for _, o := range samples.SmallOrders() {
		all = append(all, trial{o, samples.RowsOf(o)})
	}
	draw := new(samples.Draw)
	for _, natural := range samples.NaturalOrders(5) {
		o := samples.Renumbered(natural, draw)
		all = append(all, trial{o, samples.RowsOf(o)})
	}
	for _, o := range append(samples.GreatOrders(400), samples.Apart(), samples.Rising(), samples.Falling(), samples.Storeys()) {
		var rows [][]int
		for range 12 {
			rows = append(rows, samples.DrawnRow(o, draw))
		}
		all = append(all, trial{o, rows})
	}
	return all
}

// change of a row that a call makes.
type change func(o api.Order, row []int) ([]int, api.Errno)

// changed: what right rows are changed to.
func changed(t *testing.T, call change, o api.Order, row []int) []int {
	t.Helper()
	got, err := call(o, row)
	if err != api.OK {
		t.Fatalf("%v, %v: error %d", o, row, err)
	}
	return got
}

// orbit of a right row.
func orbit(t *testing.T, o api.Order, row []int) int {
	t.Helper()
	got, err := Orbit(o, row)
	if err != api.OK {
		t.Fatalf("Orbit(%v, %v): error %d", o, row, err)
	}
	return got
}

// swapped by the words of Z1, by several swaps, one behind the other.
func swapped(o api.Order, row []int, swaps ...int) []int {
	for _, k := range swaps {
		one, other := row[k], row[k+1]
		if !samples.IsBelow(o, one, other) && !samples.IsBelow(o, other, one) {
			row = slices.Concat(row[:k], []int{other, one}, row[k+2:])
		}
	}
	return slices.Clone(row)
}

// upTo: the numbers from 0 to last.
func upTo(last int) []int {
	var list []int
	for k := 0; k <= last; k++ {
		list = append(list, k)
	}
	return list
}

// promoting, demoting, evacuating: the swaps by the words of Z1, of n points.
func promoting(n int) []int { return upTo(n - 2) }

func demoting(n int) []int {
	list := upTo(n - 2)
	slices.Reverse(list)
	return list
}

func evacuating(n int) []int {
	var list []int
	for left := range n {
		list = append(list, upTo(n-2-left)...)
	}
	return list
}

func TestZ1(t *testing.T) {
	for _, c := range []struct {
		name                         string
		o                            api.Order
		row                          []int
		promoted, demoted, evacuated []int
		orbit                        int
	}{
		{"no points", below(), nil, nil, nil, nil, 1},
		{"one point", below(0), []int{0}, []int{0}, []int{0}, []int{0}, 1},
		{"the document's", below(0, 0, 1), []int{0, 1, 2}, []int{1, 0, 2}, []int{0, 2, 1}, []int{0, 1, 2}, 3},
		{"two apart", below(0, 0), []int{0, 1}, []int{1, 0}, []int{1, 0}, []int{1, 0}, 2},
		{"a chain stays", below(0, 1, 3), []int{0, 1, 2}, []int{0, 1, 2}, []int{0, 1, 2}, []int{0, 1, 2}, 1},
		{"three apart go round", below(0, 0, 0), []int{2, 0, 1}, []int{0, 1, 2}, []int{1, 2, 0}, []int{1, 0, 2}, 3},
		{"two pairs", below(0, 1, 0, 4), []int{0, 1, 2, 3}, []int{0, 2, 3, 1}, []int{2, 0, 1, 3}, []int{2, 3, 0, 1}, 4},
		{"a zigzag", below(0, 0, 3, 2), []int{0, 1, 3, 2}, []int{1, 3, 0, 2}, []int{1, 0, 2, 3}, []int{0, 1, 3, 2}, 3},
		{"ten apart", samples.Apart(), []int{0, 1, 2, 3, 4, 5, 6, 7, 8, 9}, []int{1, 2, 3, 4, 5, 6, 7, 8, 9, 0}, []int{9, 0, 1, 2, 3, 4, 5, 6, 7, 8}, []int{9, 8, 7, 6, 5, 4, 3, 2, 1, 0}, 10},
		{"ten in a chain", samples.Falling(), []int{9, 8, 7, 6, 5, 4, 3, 2, 1, 0}, []int{9, 8, 7, 6, 5, 4, 3, 2, 1, 0}, []int{9, 8, 7, 6, 5, 4, 3, 2, 1, 0}, []int{9, 8, 7, 6, 5, 4, 3, 2, 1, 0}, 1},
		{"five storeys, each swapped an odd number of times", samples.Storeys(), []int{0, 1, 2, 3, 4, 5, 6, 7, 8, 9}, []int{1, 0, 3, 2, 5, 4, 7, 6, 9, 8}, []int{1, 0, 3, 2, 5, 4, 7, 6, 9, 8}, []int{1, 0, 3, 2, 5, 4, 7, 6, 9, 8}, 2},
	} {
		if got := changed(t, Promote, c.o, c.row); !slices.Equal(got, c.promoted) {
			t.Errorf("%s: Promote(%v, %v) = %v, want %v", c.name, c.o, c.row, got, c.promoted)
		}
		if got := changed(t, Demote, c.o, c.row); !slices.Equal(got, c.demoted) {
			t.Errorf("%s: Demote(%v, %v) = %v, want %v", c.name, c.o, c.row, got, c.demoted)
		}
		if got := changed(t, Evacuate, c.o, c.row); !slices.Equal(got, c.evacuated) {
			t.Errorf("%s: Evacuate(%v, %v) = %v, want %v", c.name, c.o, c.row, got, c.evacuated)
		}
		if got := orbit(t, c.o, c.row); got != c.orbit {
			t.Errorf("%s: Orbit(%v, %v) = %d, want %d", c.name, c.o, c.row, got, c.orbit)
		}
	}
}

func TestZ1ByItsWords(t *testing.T) {
	for _, one := range trials() {
		for _, row := range one.rows {
			for _, c := range []struct {
				name  string
				call  change
				swaps []int
			}{{"Promote", Promote, promoting(one.o.N)}, {"Demote", Demote, demoting(one.o.N)}, {"Evacuate", Evacuate, evacuating(one.o.N)}} {
				want := swapped(one.o, row, c.swaps...)
				if got := changed(t, c.call, one.o, row); !slices.Equal(got, want) {
					t.Fatalf("%s(%v, %v) = %v, want %v", c.name, one.o, row, got, want)
				}
				if _, err := extend.Rank(one.o, want); err != api.OK {
					t.Fatalf("%s(%v, %v) = %v is no row", c.name, one.o, row, want)
				}
			}
		}
	}
}

// slid: another way to promote. The first point goes behind all that stands ahead of the first one above it, that one behind all ahead of the first one above it, and so on; the last one of these goes to the end.
func slid(o api.Order, row []int) []int {
	var list []int
	for place, point := range row {
		if place == 0 {
			continue
		}
		if samples.IsBelow(o, row[0], point) {
			return append(append(list, row[0]), slid(o, row[place:])...)
		}
		list = append(list, point)
	}
	return append(list, row[:min(len(row), 1)]...)
}

func TestZ1PromotedIsSlid(t *testing.T) {
	for _, one := range trials() {
		for _, row := range one.rows {
			if got, want := changed(t, Promote, one.o, row), slid(one.o, row); !slices.Equal(got, want) {
				t.Fatalf("Promote(%v, %v) = %v, want %v", one.o, row, got, want)
			}
		}
	}
}

func TestZ2OrbitByItsWords(t *testing.T) {
	count := map[int]int{}
	for _, one := range trials() {
		for _, row := range one.rows {
			want := 1
			for next := slid(one.o, row); !slices.Equal(next, row); next = slid(one.o, next) {
				want++
			}
			if got := orbit(t, one.o, row); got != want {
				t.Fatalf("Orbit(%v, %v) = %d, want %d", one.o, row, got, want)
			}
			count[want]++
		}
	}
	for times := 1; times < 7; times++ {
		if count[times] < 20 {
			t.Errorf("how many rows are there again after how many times: %v", count)
		}
	}
}

// chainOf n points, from 0 up.
func chainOf(n int) api.Order { return below(samples.Rising().Below[:n]...) }

func TestZ2RectanglesAreThereAgainAfterAsManyTimesAsPoints(t *testing.T) {
	// So it is known of a chain times a chain.
	for _, sides := range [][2]int{{1, 7}, {2, 2}, {2, 3}, {3, 2}, {2, 4}, {2, 5}, {5, 2}, {3, 3}} {
		o, err := order.Times(chainOf(sides[0]), chainOf(sides[1]))
		if err != api.OK {
			t.Fatal(err)
		}
		count, _ := extend.Count(o)
		for k := range count {
			row, _ := extend.Nth(o, k)
			if got := orbit(t, o, row); o.N%got != 0 {
				t.Fatalf("%v: Orbit(%v, %v) = %d", sides, o, row, got)
			}
		}
	}
}

func TestZ2AllOfAnOrbitTellTheSame(t *testing.T) {
	for _, o := range []api.Order{below(0, 0, 3, 2), below(0, 1, 0, 4), below(0, 1, 3, 0, 8), below(0, 0, 3, 7, 7, 23, 2), below(0, 0, 0, 6, 5, 3)} {
		left := map[int]int{}
		count, _ := extend.Count(o)
		for k := range count {
			left[k] = 1
		}
		// Each row is in one orbit, which has as many rows as it tells.
		for k := range count {
			first, _ := extend.Nth(o, k)
			if left[k] == 0 {
				continue
			}
			times := orbit(t, o, first)
			for row := range times {
				rank, err := extend.Rank(o, first)
				if err != api.OK || left[rank] == 0 || orbit(t, o, first) != times {
					t.Fatalf("%v: %v, the row %d of an orbit, was met, or tells another number than %d", o, first, row, times)
				}
				left[rank] = 0
				first = changed(t, Promote, o, first)
			}
			if rank, _ := extend.Rank(o, first); rank != k {
				t.Fatalf("%v: after %d times row %d is row %d", o, times, k, rank)
			}
		}
	}
}

func TestZ2LongOrbits(t *testing.T) {
	// Of ten points some rows are not there again for long.
	most := 0
	ask := func(o api.Order, row []int) {
		times := orbit(t, o, row)
		most = max(most, times)
		other := row
		for time := range times {
			if time > 0 && slices.Equal(other, row) {
				t.Fatalf("Orbit(%v, %v) = %d, but it is there again after %d times", o, row, times, time)
			}
			other = slid(o, other)
		}
		if !slices.Equal(other, row) {
			t.Fatalf("Orbit(%v, %v) = %d, but then it is %v", o, row, times, other)
		}
	}
	draw := new(samples.Draw)
	for _, o := range samples.GreatOrders(2000) {
		if o.N == 10 {
			ask(o, samples.DrawnRow(o, draw))
		}
	}
	ask(below(0, 64, 896, 448, 0, 641, 0, 0, 0, 0), []int{6, 0, 9, 4, 1, 8, 7, 5, 3, 2})
	if most != 64700 {
		t.Errorf("the longest one has %d rows", most)
	}
}

func TestZ3(t *testing.T) {
	moved := 0
	for _, one := range trials() {
		for _, row := range one.rows {
			promoted := changed(t, Promote, one.o, row)
			demoted := changed(t, Demote, one.o, row)
			evacuated := changed(t, Evacuate, one.o, row)
			if got := changed(t, Demote, one.o, promoted); !slices.Equal(got, row) {
				t.Fatalf("%v: %v promoted and demoted is %v", one.o, row, got)
			}
			if got := changed(t, Promote, one.o, demoted); !slices.Equal(got, row) {
				t.Fatalf("%v: %v demoted and promoted is %v", one.o, row, got)
			}
			if got := changed(t, Evacuate, one.o, evacuated); !slices.Equal(got, row) {
				t.Fatalf("%v: %v evacuated twice is %v", one.o, row, got)
			}
			got, want := changed(t, Evacuate, one.o, promoted), changed(t, Demote, one.o, evacuated)
			if !slices.Equal(got, want) {
				t.Fatalf("%v: %v promoted and evacuated is %v, evacuated and demoted %v", one.o, row, got, want)
			}
			if orbit(t, one.o, evacuated) != orbit(t, one.o, row) {
				t.Fatalf("%v: %v evacuated has another orbit", one.o, row)
			}
			if !slices.Equal(promoted, demoted) && !slices.Equal(evacuated, row) {
				moved++
			}
		}
	}
	if moved < 5000 {
		t.Errorf("%d rows that are moved", moved)
	}
}

// turned: a list from its end on.
func turned(list []int) []int {
	other := slices.Clone(list)
	slices.Reverse(other)
	return other
}

func TestTheWholeTurnedOver(t *testing.T) {
	for _, one := range trials() {
		dual, _ := order.Dual(one.o)
		for _, row := range one.rows {
			if got, want := changed(t, Promote, dual, turned(row)), turned(changed(t, Demote, one.o, row)); !slices.Equal(got, want) {
				t.Fatalf("%v: %v turned over and promoted is %v, want %v", one.o, row, got, want)
			}
			if orbit(t, dual, turned(row)) != orbit(t, one.o, row) {
				t.Fatalf("%v: %v turned over has another orbit", one.o, row)
			}
		}
	}
}

func TestTheWholeNumberedAnew(t *testing.T) {
	o := below(0, 0, 3, 2)
	for _, names := range samples.Lists(4) {
		other := samples.Named(o, names)
		for _, row := range samples.RowsOf(o) {
			renamed := samples.Renamed(row, names)
			for i, call := range []change{Promote, Demote, Evacuate} {
				got, want := changed(t, call, other, renamed), samples.Renamed(changed(t, call, o, row), names)
				if !slices.Equal(got, want) {
					t.Fatalf("call %d of %v by the names %v: %v, want %v", i, row, names, got, want)
				}
			}
			if orbit(t, other, renamed) != orbit(t, o, row) {
				t.Fatalf("the orbit of %v by the names %v is another one", row, names)
			}
		}
	}
}

// isRefused: all calls tell the error and nothing else.
func isRefused(t *testing.T, o api.Order, list []int, want api.Errno) {
	t.Helper()
	for i, call := range []change{Promote, Demote, Evacuate} {
		if got, err := call(o, list); err != want || got != nil {
			t.Errorf("call %d of %v, %v: %v, error %d, want error %d", i, o, list, got, err, want)
		}
	}
	if got, err := Orbit(o, list); err != want || got != 0 {
		t.Errorf("Orbit(%v, %v) = %d, error %d, want error %d", o, list, got, err, want)
	}
}

func TestZ1NoRow(t *testing.T) {
	for _, no := range samples.NoRows() {
		isRefused(t, no.Order, no.List, api.ErrForm)
	}
	for _, o := range samples.SmallOrders() {
		for _, list := range samples.Maps(o.N, o.N) {
			sorted := slices.Sorted(slices.Values(list))
			if !slices.Equal(sorted, upTo(o.N-1)) || !samples.IsRow(o, list) {
				isRefused(t, o, list, api.ErrForm)
			}
		}
	}
}

func TestA1CheckIsToldFirst(t *testing.T) {
	for _, w := range samples.WrongOrders() {
		for _, list := range [][]int{nil, {0}, {0, 1}, {1, 0}, {0, 1, 2}, {-1}, {0, 0}, make([]int, 11)} {
			isRefused(t, w.Order, list, w.Err)
		}
	}
}

func TestP2P3OnlyReadAndTheSameEachTime(t *testing.T) {
	for _, one := range []trial{{below(), [][]int{{}}}, {below(0), [][]int{{0}}}, {below(0, 0, 3, 2), [][]int{{0, 1, 3, 2}}}, {samples.Rising(), [][]int{upTo(9)}}, {samples.Storeys(), [][]int{upTo(9)}}} {
		sets, setsRoom := samples.Roomy(one.o.Below...)
		row, rowRoom := samples.Roomy(one.rows[0]...)
		o := below(sets...)
		before := slices.Concat(setsRoom, rowRoom)
		for range 3 {
			promoted, demoted, evacuated := changed(t, Promote, o, row), changed(t, Demote, o, row), changed(t, Evacuate, o, row)
			if !slices.Equal(promoted, swapped(o, row, promoting(o.N)...)) || !slices.Equal(demoted, swapped(o, row, demoting(o.N)...)) || !slices.Equal(evacuated, swapped(o, row, evacuating(o.N)...)) {
				t.Fatalf("%v, %v: %v, %v, %v", o, row, promoted, demoted, evacuated)
			}
			if first := orbit(t, one.o, one.rows[0]); orbit(t, o, row) != first {
				t.Fatalf("Orbit(%v, %v) is no longer %d", o, row, first)
			}
			if samples.Shared(promoted, demoted, evacuated, sets, row) || !slices.Equal(before, slices.Concat(setsRoom, rowRoom)) {
				t.Fatalf("%v or %v was changed, or is shared", o, row)
			}
			samples.Spoil(promoted)
			samples.Spoil(demoted)
			samples.Spoil(evacuated)
		}
	}
}
