package lattice

import (
	"math"
	"reflect"
	"slices"
	"testing"

	"hasse/api"
	"hasse/samples"
)

// below tells an order by its sets.
func below(sets ...int) api.Order { return samples.Below(sets...) }

// The least lattices that break a law, and one that keeps all.
func pentagon() api.Order { return below(0, 1, 3, 1, 15) }
func diamond() api.Order  { return below(0, 1, 1, 1, 15) }
func cube() api.Order     { return below(0, 1, 1, 7, 1, 19, 21, 127) }

// made of an order that is known to be a lattice.
func made(t testing.TB, o api.Order) api.Lattice {
	t.Helper()
	l, is := samples.LatticeOf(o)
	if !is {
		t.Fatalf("%v is no lattice", o)
	}
	return l
}

// tried lattices: small ones, all of them, and great ones of many kinds.
func tried() []api.Lattice { return append(samples.SmallLattices(), samples.GreatLattices(150)...) }

// isUpTo: x is y or below it, told by Join, where the program goes by Meet.
func isUpTo(l api.Lattice, x, y int) bool { return l.Join[x][y] == y }

func isNothing(l api.Lattice) bool { return l.N == 0 && l.Meet == nil && l.Join == nil }

func TestJ1Check(t *testing.T) {
	for _, w := range samples.WrongLattices() {
		if got := Check(w.Lattice); got != w.Err {
			t.Errorf("Check(%v) = %d, want %d", w.Lattice, got, w.Err)
		}
	}
	for _, l := range tried() {
		if got := Check(l); got != api.OK {
			t.Fatalf("Check(%v) = %d", l, got)
		}
		// Turned over it is a lattice, too.
		if got := Check(api.Lattice{N: l.N, Meet: l.Join, Join: l.Meet}); got != api.OK {
			t.Fatalf("Check(%v) turned over = %d", l, got)
		}
	}
}

// allTables of n elements.
func allTables(n int) [][][]int {
	count := 1
	for range n * n {
		count *= n
	}
	all := make([][][]int, 0, count)
	for code := range count {
		table := make([][]int, n)
		for x := range n {
			for range n {
				table[x] = append(table[x], code%n)
				code /= n
			}
		}
		all = append(all, table)
	}
	return all
}

func TestJ1CheckOfAllSmallTables(t *testing.T) {
	// How many lattices n numbered elements have is well known.
	for i, want := range []int{1, 2, 6} {
		n, count := i+1, 0
		all := allTables(n)
		others := all
		if n == 3 {
			// They are too many for each two; so beside each stand those that keep the laws that are their own, and drawn ones.
			others = nil
			draw := new(samples.Draw)
			for _, table := range all {
				if comesTogether(table) || draw.Next(1000) == 0 {
					others = append(others, table)
				}
			}
		}
		for _, meet := range all {
			for _, join := range others {
				l := api.Lattice{N: n, Meet: meet, Join: join}
				got := Check(l)
				if (got == api.OK) != samples.IsLattice(l) || got != api.OK && got != api.ErrState {
					t.Fatalf("Check(%v) = %d", l, got)
				}
				if got == api.OK {
					count++
				}
			}
		}
		if count != want {
			t.Errorf("%d elements: %d lattices, want %d", n, count, want)
		}
	}
}

// comesTogether tells whether a table keeps the laws that are its own.
func comesTogether(table [][]int) bool {
	return first(len(table), func(x, y, z int) bool {
		return table[x][x] != x || table[x][y] != table[y][x] || table[x][table[y][z]] != table[table[x][y]][z]
	}) == nil
}

// cloned: a lattice of its own memory.
func cloned(l api.Lattice) api.Lattice {
	c := api.Lattice{N: l.N}
	for x := range l.N {
		c.Meet = append(c.Meet, slices.Clone(l.Meet[x]))
		c.Join = append(c.Join, slices.Clone(l.Join[x]))
	}
	return c
}

func TestJ1CheckOfChanged(t *testing.T) {
	draw := new(samples.Draw)
	for _, right := range tried() {
		if right.N == 1 {
			continue
		}
		for range 12 {
			l := cloned(right)
			x, y, value := draw.Next(l.N), draw.Next(l.N), draw.Next(l.N)
			table := pair(l)[draw.Next(2)]
			table[x][y] = value
			if draw.Next(4) > 0 {
				table[y][x] = value
			}
			if got := Check(l); (got == api.OK) != samples.IsLattice(l) || got != api.OK && got != api.ErrState {
				t.Fatalf("Check(%v) = %d", l, got)
			}
			table[y][x] = []int{-1, l.N, math.MaxInt, math.MinInt}[draw.Next(4)]
			if got := Check(l); got != api.ErrRange {
				t.Fatalf("Check(%v) = %d", l, got)
			}
			row := draw.Next(l.N)
			table[row] = table[row][:draw.Next(l.N)]
			if got := Check(l); got != api.ErrForm {
				t.Fatalf("Check(%v) = %d", l, got)
			}
		}
	}
}

func TestJ1CheckIsToldFirst(t *testing.T) {
	for _, w := range samples.WrongLattices() {
		l := w.Lattice
		if o, err := Order(l); err != w.Err || o.N != 0 || o.Below != nil {
			t.Errorf("Order(%v) = %v, error %d", l, o, err)
		}
		if is, err := Modular(l); err != w.Err || is {
			t.Errorf("Modular(%v) = %v, error %d", l, is, err)
		}
		if is, err := Distributive(l); err != w.Err || is {
			t.Errorf("Distributive(%v) = %v, error %d", l, is, err)
		}
		if list, found, err := Pentagon(l); err != w.Err || found || list != nil {
			t.Errorf("Pentagon(%v) = %v, %v, error %d", l, list, found, err)
		}
		if list, found, err := Diamond(l); err != w.Err || found || list != nil {
			t.Errorf("Diamond(%v) = %v, %v, error %d", l, list, found, err)
		}
		for _, x := range []int{0, 1, -1, 100, math.MaxInt, math.MinInt} {
			if list, err := Others(l, x); err != w.Err || list != nil {
				t.Errorf("Others(%v, %d) = %v, error %d", l, x, list, err)
			}
		}
	}
	// What is wrong with a great lattice comes ahead of its being too great for an order.
	l := samples.ChainLattice(40)
	l.Join[39][39] = 38
	if _, err := Order(l); err != api.ErrState {
		t.Errorf("Order of a wrong chain of 40: error %d", err)
	}
}

func TestA1CheckIsToldFirst(t *testing.T) {
	for _, w := range samples.WrongOrders() {
		if l, is, err := Tables(w.Order); err != w.Err || is || !isNothing(l) {
			t.Errorf("Tables(%v) = %v, %v, error %d, want error %d", w.Order, l, is, err, w.Err)
		}
	}
}

func TestJ2Tables(t *testing.T) {
	for _, c := range []struct {
		o          api.Order
		meet, join [][]int
		is         bool
	}{
		{api.Order{}, nil, nil, false},
		{api.Order{Below: []int{}}, nil, nil, false},
		{below(0), [][]int{{0}}, [][]int{{0}}, true},
		{below(0, 0), nil, nil, false},
		{below(0, 1), [][]int{{0, 0}, {0, 1}}, [][]int{{0, 1}, {1, 1}}, true},
		{below(2, 0), [][]int{{0, 1}, {1, 1}}, [][]int{{0, 0}, {0, 1}}, true},
		// A Join, but no Meet; and a Meet, but no Join.
		{below(0, 0, 3), nil, nil, false},
		{below(0, 1, 1), nil, nil, false},
		// Two are below two others: of neither two is one the nearest.
		{below(0, 1, 1, 7, 7, 31), nil, nil, false},
		{below(8, 8, 11, 0), [][]int{{0, 3, 0, 3}, {3, 1, 1, 3}, {0, 1, 2, 3}, {3, 3, 3, 3}}, [][]int{{0, 2, 2, 0}, {2, 1, 2, 1}, {2, 2, 2, 2}, {0, 1, 2, 3}}, true},
	} {
		l, is, err := Tables(c.o)
		want := api.Lattice{N: len(c.meet), Meet: c.meet, Join: c.join}
		if err != api.OK || is != c.is || !reflect.DeepEqual(l, want) {
			t.Errorf("Tables(%v) = %v, %v, error %d, want %v, %v", c.o, l, is, err, want, c.is)
		}
	}
}

// triedOrders: lattices and others.
func triedOrders() []api.Order {
	orders := append(samples.SmallOrders(), samples.NaturalOrders(5)...)
	orders = append(orders, samples.GreatOrders(200)...)
	orders = append(orders, samples.Apart(), samples.Rising(), samples.Falling(), samples.Storeys())
	for _, l := range tried() {
		if l.N <= api.MaxPoints {
			orders = append(orders, plainOrder(l))
		}
	}
	return orders
}

// plainOrder of a lattice by its Joins.
func plainOrder(l api.Lattice) api.Order {
	sets := make([]int, l.N)
	for x := range l.N {
		for y := range l.N {
			if x != y && isUpTo(l, x, y) {
				sets[y] |= 1 << x
			}
		}
	}
	return below(sets...)
}

func TestJ2TablesByItsWords(t *testing.T) {
	lattices := 0
	for _, o := range triedOrders() {
		want, is := samples.LatticeOf(o)
		got, found, err := Tables(o)
		if err != api.OK || found != is || !reflect.DeepEqual(got, want) {
			t.Fatalf("Tables(%v) = %v, %v, error %d, want %v, %v", o, got, found, err, want, is)
		}
		if is {
			lattices++
		}
	}
	if lattices < 800 {
		t.Errorf("only %d lattices were tried", lattices)
	}
}

func TestJ2Order(t *testing.T) {
	for _, l := range tried() {
		got, err := Order(l)
		if l.N > api.MaxPoints {
			if err != api.ErrMany || got.N != 0 || got.Below != nil {
				t.Fatalf("Order of %d elements: %v, error %d", l.N, got, err)
			}
			continue
		}
		if want := plainOrder(l); err != api.OK || !reflect.DeepEqual(got, want) {
			t.Fatalf("Order(%v) = %v, error %d, want %v", l, got, err, want)
		}
	}
	if got, err := Order(samples.ChainLattice(10)); err != api.OK || !slices.Equal(got.Below, samples.Rising().Below) {
		t.Errorf("Order of a chain of 10: %v, error %d", got, err)
	}
	if _, err := Order(samples.ChainLattice(11)); err != api.ErrMany {
		t.Errorf("Order of a chain of 11: error %d", err)
	}
}

func TestJ3OfNamedLattices(t *testing.T) {
	for _, c := range []struct {
		name                  string
		l                     api.Lattice
		modular, distributive bool
		pentagon, diamond     []int
	}{
		{"one element", samples.ChainLattice(1), true, true, nil, nil},
		{"a chain", samples.ChainLattice(40), true, true, nil, nil},
		{"the cube", made(t, cube()), true, true, nil, nil},
		{"the pentagon", made(t, pentagon()), false, false, []int{1, 2, 3}, nil},
		{"the diamond", made(t, diamond()), true, false, nil, []int{1, 2, 3}},
		{"the pentagon the other way round", made(t, below(30, 0, 2, 6, 2)), false, false, []int{2, 3, 4}, nil},
		{"a star", samples.StarLattice(40), true, false, nil, []int{1, 2, 3}},
		{"a star with a leg", made(t, below(0, 1, 1, 1, 47, 9)), false, false, []int{3, 5, 1}, []int{1, 2, 3}},
		{"two squares", samples.TimesLattice(samples.ChainLattice(2), samples.ChainLattice(3)), true, true, nil, nil},
		{"a square of diamonds", samples.TimesLattice(samples.StarLattice(5), samples.StarLattice(5)), true, false, nil, []int{1, 2, 3}},
	} {
		modular, err := Modular(c.l)
		distributive, err2 := Distributive(c.l)
		if err != api.OK || err2 != api.OK || modular != c.modular || distributive != c.distributive {
			t.Errorf("%s: modular %v, distributive %v, errors %d, %d", c.name, modular, distributive, err, err2)
		}
		five, found, err := Pentagon(c.l)
		if err != api.OK || found != (c.pentagon != nil) || !slices.Equal(five, c.pentagon) || !found && five != nil {
			t.Errorf("%s: pentagon %v, %v, error %d, want %v", c.name, five, found, err, c.pentagon)
		}
		three, found, err := Diamond(c.l)
		if err != api.OK || found != (c.diamond != nil) || !slices.Equal(three, c.diamond) || !found && three != nil {
			t.Errorf("%s: diamond %v, %v, error %d, want %v", c.name, three, found, err, c.diamond)
		}
	}
}

// first list of three of n by a plain search.
func first(n int, so func(x, y, z int) bool) []int {
	for code := range n * n * n {
		x, y, z := code/n/n, code/n%n, code%n
		if so(x, y, z) {
			return []int{x, y, z}
		}
	}
	return nil
}

func TestJ3ByItsWords(t *testing.T) {
	pentagons, diamonds := 0, 0
	for _, l := range tried() {
		uneven := first(l.N, func(x, y, z int) bool {
			return isUpTo(l, x, z) && l.Join[x][l.Meet[y][z]] != l.Meet[l.Join[x][y]][z]
		})
		if got, err := Modular(l); err != api.OK || got != (uneven == nil) {
			t.Fatalf("Modular(%v) = %v, error %d, but there is %v", l, got, err, uneven)
		}
		mixed := first(l.N, func(x, y, z int) bool {
			return l.Meet[x][l.Join[y][z]] != l.Join[l.Meet[x][y]][l.Meet[x][z]]
		})
		if got, err := Distributive(l); err != api.OK || got != (mixed == nil) {
			t.Fatalf("Distributive(%v) = %v, error %d, but there is %v", l, got, err, mixed)
		}
		five := first(l.N, func(x, y, z int) bool {
			return x != y && isUpTo(l, x, y) && l.Meet[x][z] == l.Meet[y][z] && l.Join[x][z] == l.Join[y][z]
		})
		if got, found, err := Pentagon(l); err != api.OK || found != (five != nil) || !slices.Equal(got, five) {
			t.Fatalf("Pentagon(%v) = %v, %v, error %d, want %v", l, got, found, err, five)
		}
		three := first(l.N, func(x, y, z int) bool {
			meets := l.Meet[x][y] == l.Meet[y][z] && l.Meet[y][z] == l.Meet[x][z]
			joins := l.Join[x][y] == l.Join[y][z] && l.Join[y][z] == l.Join[x][z]
			return meets && joins && x != y && y != z && x != z
		})
		if got, found, err := Diamond(l); err != api.OK || found != (three != nil) || !slices.Equal(got, three) {
			t.Fatalf("Diamond(%v) = %v, %v, error %d, want %v", l, got, found, err, three)
		}
		pentagons += len(five) / 3
		diamonds += len(three) / 3
	}
	if pentagons < 300 || diamonds < 100 {
		t.Errorf("only %d pentagons and %d diamonds were tried", pentagons, diamonds)
	}
}

func TestJ3Others(t *testing.T) {
	for _, l := range tried() {
		// The least one is below all, and the greatest one above all, by Join.
		least, greatest := -1, -1
		for e := range l.N {
			low, high := true, true
			for x := range l.N {
				low, high = low && isUpTo(l, e, x), high && isUpTo(l, x, e)
			}
			if low {
				least = e
			}
			if high {
				greatest = e
			}
		}
		for x := range l.N {
			var want []int
			for y := range l.N {
				if l.Meet[y][x] == least && l.Join[y][x] == greatest {
					want = append(want, y)
				}
			}
			if got, err := Others(l, x); err != api.OK || !slices.Equal(got, want) {
				t.Fatalf("Others(%v, %d) = %v, error %d, want %v", l, x, got, err, want)
			}
		}
		for _, x := range []int{-1, l.N, math.MaxInt, math.MinInt} {
			if got, err := Others(l, x); err != api.ErrRange || got != nil {
				t.Fatalf("Others(%v, %d) = %v, error %d", l, x, got, err)
			}
		}
	}
}

func TestJ3OthersOfNamedLattices(t *testing.T) {
	star := samples.StarLattice(40)
	if got, err := Others(star, 7); err != api.OK || len(got) != 37 || slices.Contains(got, 7) || slices.Contains(got, 0) || slices.Contains(got, 39) {
		t.Errorf("Others of 7 in a star: %v, error %d", got, err)
	}
	if got, err := Others(samples.ChainLattice(1), 0); err != api.OK || !slices.Equal(got, []int{0}) {
		t.Errorf("Others of the only one: %v, error %d", got, err)
	}
	if got, err := Others(samples.ChainLattice(3), 1); err != api.OK || len(got) != 0 {
		t.Errorf("Others of the middle of a chain: %v, error %d", got, err)
	}
	if got, err := Others(made(t, pentagon()), 3); err != api.OK || !slices.Equal(got, []int{1, 2}) {
		t.Errorf("Others of 3 in the pentagon: %v, error %d", got, err)
	}
}

func TestJ4AnOrderAndItsTablesSayTheSame(t *testing.T) {
	for _, o := range triedOrders() {
		l, is, err := Tables(o)
		if err != api.OK {
			t.Fatalf("Tables(%v): error %d", o, err)
		}
		if !is {
			continue
		}
		if got := Check(l); got != api.OK {
			t.Fatalf("Check(Tables(%v)) = %d", o, got)
		}
		if back, err := Order(l); err != api.OK || back.N != o.N || !slices.Equal(back.Below, o.Below) {
			t.Fatalf("Order(Tables(%v)) = %v, error %d", o, back, err)
		}
	}
	for _, l := range tried() {
		o, err := Order(l)
		if err != api.OK {
			continue
		}
		if back, is, err := Tables(o); err != api.OK || !is || !reflect.DeepEqual(back, l) {
			t.Fatalf("Tables(Order(%v)) = %v, %v, error %d", l, back, is, err)
		}
	}
}

// laws that a lattice keeps, and what tells of it.
func laws(t *testing.T, l api.Lattice) (modular, distributive, five, three bool) {
	t.Helper()
	modular, err1 := Modular(l)
	distributive, err2 := Distributive(l)
	_, five, err3 := Pentagon(l)
	_, three, err4 := Diamond(l)
	if err1 != api.OK || err2 != api.OK || err3 != api.OK || err4 != api.OK {
		t.Fatalf("%v: errors %d, %d, %d, %d", l, err1, err2, err3, err4)
	}
	return modular, distributive, five, three
}

func TestJ4DedekindBirkhoff(t *testing.T) {
	for _, l := range tried() {
		modular, distributive, five, three := laws(t, l)
		if modular == five {
			t.Fatalf("%v: modular %v, pentagon %v", l, modular, five)
		}
		if distributive == (five || three) {
			t.Fatalf("%v: distributive %v, pentagon %v, diamond %v", l, distributive, five, three)
		}
		if !distributive {
			continue
		}
		for x := range l.N {
			if others, err := Others(l, x); err != api.OK || len(others) > 1 {
				t.Fatalf("%v is distributive, but %d has %v, error %d", l, x, others, err)
			}
		}
	}
}

// form of a lattice: the least of its Meets, however it is numbered; it tells lattices apart.
func form(l api.Lattice) [36]int {
	least := [36]int{l.N}
	each(l.N, func(names []int) {
		var table [36]int
		for x := range l.N {
			for y := range l.N {
				table[names[x]*l.N+names[y]] = names[l.Meet[x][y]]
			}
		}
		if slices.Compare(table[:], least[:]) < 0 {
			least = table
		}
	})
	return least
}

// each list of n numbers that has each once.
func each(n int, do func(list []int)) {
	var list []int
	var fill func()
	fill = func() {
		if len(list) == n {
			do(list)
			return
		}
		for i := range n {
			if !slices.Contains(list, i) {
				list = append(list, i)
				fill()
				list = list[:len(list)-1]
			}
		}
	}
	fill()
}

func TestJ3HowManyThereAre(t *testing.T) {
	// How many lattices there are of n elements, and how many of them are modular and distributive, is well known.
	want := [][3]int{{}, {1, 1, 1}, {1, 1, 1}, {1, 1, 1}, {2, 2, 2}, {5, 4, 3}, {15, 8, 5}}
	for n := 1; n <= 6; n++ {
		met := map[[36]int][3]int{}
		for _, l := range samples.NaturalLattices(n) {
			modular, distributive, _, _ := laws(t, l)
			met[form(l)] = [3]int{1, count(modular), count(distributive)}
		}
		got := [3]int{}
		for _, kinds := range met {
			for i := range got {
				got[i] += kinds[i]
			}
		}
		if got != want[n] {
			t.Errorf("%d elements: %v lattices, modular ones, distributive ones, want %v", n, got, want[n])
		}
	}
}

func count(is bool) int {
	if is {
		return 1
	}
	return 0
}

func TestP2P3LatticesAreOnlyReadAndTheSameEachTime(t *testing.T) {
	for _, o := range []api.Order{cube(), pentagon(), diamond(), below(0), samples.Rising()} {
		l, rooms := samples.RoomyLattice(made(t, o))
		before := make([][]int, len(rooms))
		for i, room := range rooms {
			before[i] = slices.Clone(room)
		}
		for range 2 {
			got, _ := Order(l)
			if !slices.Equal(got.Below, o.Below) {
				t.Errorf("Order(%v) = %v", l, got)
			}
			samples.Spoil(got.Below)
			five, _, _ := Pentagon(l)
			again, _, _ := Pentagon(l)
			samples.Spoil(five)
			if slices.Contains(again, -5) {
				t.Errorf("Pentagon(%v) is kept", l)
			}
			three, _, _ := Diamond(l)
			again, _, _ = Diamond(l)
			samples.Spoil(three)
			if slices.Contains(again, -5) {
				t.Errorf("Diamond(%v) is kept", l)
			}
			for x := range l.N {
				others, _ := Others(l, x)
				again, _ := Others(l, x)
				samples.Spoil(others)
				if slices.Contains(again, -5) {
					t.Errorf("Others(%v, %d) are kept", l, x)
				}
			}
			Modular(l)
			Distributive(l)
			Check(l)
		}
		if !reflect.DeepEqual(rooms, before) || !samples.HasRoom(l) {
			t.Errorf("the tables of %v were changed", o)
		}
	}
}

func TestP2TablesAreNewMemory(t *testing.T) {
	for _, o := range []api.Order{cube(), pentagon(), below(0), samples.Falling()} {
		list, room := samples.Roomy(o.Below...)
		before := slices.Clone(room)
		want := made(t, o)
		got, is, err := Tables(api.Order{N: o.N, Below: list})
		if err != api.OK || !is || !reflect.DeepEqual(got, want) || !slices.Equal(room, before) {
			t.Fatalf("Tables(%v) = %v, %v, error %d", o, got, is, err)
		}
		if samples.Shared(append(samples.Rows(got), room)...) {
			t.Fatalf("the tables of %v share memory", o)
		}
		samples.Spoil(got.Meet[0])
		if again, _, _ := Tables(o); !reflect.DeepEqual(again, want) || !slices.Equal(room, before) {
			t.Errorf("Tables(%v) = %v once more", o, again)
		}
	}
}

func BenchmarkCheck(b *testing.B) {
	l := samples.TimesLattice(samples.StarLattice(5), samples.StarLattice(8))
	for range b.N {
		Check(l)
	}
}
