package samples

import (
	"slices"
	"testing"

	"hasse/api"
)

func TestLatticeOf(t *testing.T) {
	// How many lattices n numbered elements have is well known.
	for n, want := range []int{0, 1, 2, 6, 36} {
		count := 0
		for _, o := range Orders(n) {
			if l, is := LatticeOf(o); is {
				count++
				if l.N != n || !IsLattice(l) {
					t.Errorf("%v: %v is no lattice", o, l)
				}
			}
		}
		if count != want {
			t.Errorf("%d elements: %d lattices, want %d", n, count, want)
		}
	}
}

func TestNaturalLattices(t *testing.T) {
	for n := 1; n <= 4; n++ {
		count := 0
		for _, o := range NaturalOrders(n) {
			if _, is := LatticeOf(o); is {
				count++
			}
		}
		if got := len(NaturalLattices(n)); got != count {
			t.Errorf("%d elements: %d lattices, want %d", n, got, count)
		}
	}
}

func TestLatticesAreLattices(t *testing.T) {
	for _, l := range append(SmallLattices(), GreatLattices(100)...) {
		if l.N < 1 || l.N > api.MaxLattice || !IsLattice(l) {
			t.Fatalf("%v is no lattice", l)
		}
	}
	sizes := map[int]int{}
	for _, l := range GreatLattices(300) {
		sizes[l.N]++
	}
	if len(sizes) < 25 || sizes[api.MaxLattice] < 4 {
		t.Errorf("not of many sizes: %v", sizes)
	}
}

func TestRenumberedLattice(t *testing.T) {
	draw := new(Draw)
	met := map[[3]int]int{}
	for range 200 {
		l := RenumberedLattice(ChainLattice(3), draw)
		if !IsLattice(l) {
			t.Fatalf("%v is no lattice", l)
		}
		met[[3]int{l.Meet[0][1], l.Meet[0][2], l.Meet[1][2]}]++
	}
	if len(met) != 6 {
		t.Errorf("%d of 6: %v", len(met), met)
	}
}

func TestStarsAndProducts(t *testing.T) {
	diamond := StarLattice(5)
	if !slices.Equal(diamond.Meet[1], []int{0, 1, 0, 0, 1}) || !slices.Equal(diamond.Join[1], []int{1, 1, 4, 4, 4}) {
		t.Errorf("StarLattice(5) = %v", diamond)
	}
	square := TimesLattice(ChainLattice(2), ChainLattice(2))
	if !slices.Equal(square.Meet[1], []int{0, 1, 0, 1}) || !slices.Equal(square.Join[1], []int{1, 1, 3, 3}) {
		t.Errorf("the square is %v", square)
	}
}

func TestIsLattice(t *testing.T) {
	good, bad := 0, 0
	for _, l := range SmallLattices() {
		for x := range l.N {
			for y := range l.N {
				right := l.Meet[x][y]
				l.Meet[x][y] = (right + 1) % l.N
				if IsLattice(l) {
					good++
				} else {
					bad++
				}
				l.Meet[x][y] = right
			}
		}
	}
	// Only of one element nothing was changed.
	if good != 2 || bad == 0 {
		t.Errorf("of changed tables %d are lattices, %d are none", good, bad)
	}
}

func TestWrongLattices(t *testing.T) {
	for _, w := range WrongLattices() {
		if w.Err == api.ErrState && IsLattice(w.Lattice) {
			t.Errorf("%v is a lattice", w.Lattice)
		}
	}
}

func TestRoomyLattice(t *testing.T) {
	want := StarLattice(5)
	l, rooms := RoomyLattice(want)
	if l.N != 5 || !slices.EqualFunc(Rows(l), Rows(want), slices.Equal) || len(rooms) != 10 || !HasRoom(l) || Shared(Rows(l)...) {
		t.Errorf("RoomyLattice(%v) = %v with %v", want, l, rooms)
	}
	for i, row := range Rows(l) {
		Spoil(row)
		if rooms[i][14] != -5 {
			t.Errorf("room %d is %v", i, rooms[i])
		}
	}
	l.Join = append(l.Join, []int{1})[:5]
	if HasRoom(l) {
		t.Error("one row more is not seen")
	}
}
