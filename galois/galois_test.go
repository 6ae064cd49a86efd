package galois

import (
	"reflect"
	"slices"
	"testing"

	"hasse/api"
	"hasse/fix"
	"hasse/lattice"
	"hasse/samples"
)

// isUpTo: x is y or below it, told by Join, where the program goes by Meet.
func isUpTo(l api.Lattice, x, y int) bool { return l.Join[x][y] == y }

// turned over: below is above.
func turned(l api.Lattice) api.Lattice { return api.Lattice{N: l.N, Meet: l.Join, Join: l.Meet} }

// least element: all others are above it.
func least(l api.Lattice) int {
	for x := range l.N {
		all := true
		for y := range l.N {
			all = all && isUpTo(l, x, y)
		}
		if all {
			return x
		}
	}
	return -1
}

// plainKeeps by the words of N1.
func plainKeeps(a, b api.Lattice, f []int) bool {
	keeps := f[least(a)] == least(b)
	for x := range a.N {
		for y := range a.N {
			keeps = keeps && b.Join[f[x]][f[y]] == f[a.Join[x][y]]
		}
	}
	return keeps
}

// plainBack by the words of N1: for each y all x are tried with all elements.
func plainBack(a, b api.Lattice, f []int) ([]int, bool) {
	back := make([]int, 0, b.N)
	for y := range b.N {
		for x := range a.N {
			is := true
			for z := range a.N {
				is = is && isUpTo(b, f[z], y) == isUpTo(a, z, x)
			}
			if is {
				back = append(back, x)
			}
		}
		if len(back) != y+1 {
			return nil, false
		}
	}
	return back, true
}

// isAsked: all three calls answer of a map what the words say.
func isAsked(t *testing.T, a, b api.Lattice, f []int) (keeps bool) {
	t.Helper()
	keeps, err := Keeps(a, b, f)
	if err != api.OK || keeps != plainKeeps(a, b, f) {
		t.Fatalf("Keeps(%v, %v, %v) = %v, error %d", a, b, f, keeps, err)
	}
	want, is := plainBack(a, b, f)
	back, found, err := Back(a, b, f)
	if err != api.OK || found != is || !slices.Equal(back, want) || !found && back != nil {
		t.Fatalf("Back(%v, %v, %v) = %v, %v, error %d, want %v, %v", a, b, f, back, found, err, want, is)
	}
	var left []int
	wantErr := api.ErrNone
	if is {
		wantErr = api.OK
		for x := range a.N {
			if want[f[x]] == x {
				left = append(left, x)
			}
		}
	}
	if closed, err := Closed(a, b, f); err != wantErr || !slices.Equal(closed, left) || err != api.OK && closed != nil {
		t.Fatalf("Closed(%v, %v, %v) = %v, error %d, want %v, error %d", a, b, f, closed, err, left, wantErr)
	}
	return keeps
}

// keeper: a drawn map that keeps joins. What goes to the least element up to some p, and to some q else, does so, and so does the Join of several such.
func keeper(a, b api.Lattice, draw *samples.Draw) []int {
	f := slices.Repeat([]int{least(b)}, a.N)
	for range draw.Next(6) {
		p, q := draw.Next(a.N), draw.Next(b.N)
		for x := range f {
			if !isUpTo(a, x, p) {
				f[x] = b.Join[f[x]][q]
			}
		}
	}
	return f
}

// tiny lattices: all natural ones of up to five elements, each numbered anew, too.
func tiny() []api.Lattice {
	draw := new(samples.Draw)
	var lattices []api.Lattice
	for n := 1; n <= 5; n++ {
		for _, l := range samples.NaturalLattices(n) {
			lattices = append(lattices, l, samples.RenumberedLattice(l, draw))
		}
	}
	return lattices
}

// trial: two lattices and a map from one to the other.
type trial struct {
	a, b api.Lattice
	f    []int
}

// trials with maps that keep joins, of lattices of all sizes.
func trials() []trial {
	draw := new(samples.Draw)
	lattices := append(samples.SmallLattices(), samples.GreatLattices(80)...)
	var all []trial
	for _, a := range lattices {
		itself := make([]int, a.N)
		for x := range itself {
			itself[x] = x
		}
		all = append(all, trial{a, a, itself})
		for range 2 {
			b := lattices[draw.Next(len(lattices))]
			all = append(all, trial{a, b, keeper(a, b, draw)})
		}
	}
	great := samples.GreatLattices(4)
	for _, a := range great {
		for _, b := range great {
			all = append(all, trial{a, b, keeper(a, b, draw)})
		}
	}
	return all
}

func TestN1N2OfNamedMaps(t *testing.T) {
	two, three, square, diamond := samples.ChainLattice(2), samples.ChainLattice(3), samples.StarLattice(4), samples.StarLattice(5)
	for _, c := range []struct {
		name         string
		a, b         api.Lattice
		f            []int
		keeps        bool
		back, closed []int
	}{
		{"one to one", samples.ChainLattice(1), samples.ChainLattice(1), []int{0}, true, []int{0}, []int{0}},
		{"one to the least of two", samples.ChainLattice(1), two, []int{0}, true, []int{0, 0}, []int{0}},
		{"one to the greatest of two", samples.ChainLattice(1), two, []int{1}, false, nil, nil},
		{"two to one", two, samples.ChainLattice(1), []int{0, 0}, true, []int{1}, []int{1}},
		{"all to the least one", two, two, []int{0, 0}, true, []int{1, 1}, []int{1}},
		{"each to itself", two, two, []int{0, 1}, true, []int{0, 1}, []int{0, 1}},
		{"all to the greatest one", two, two, []int{1, 1}, false, nil, nil},
		{"exchanged", two, two, []int{1, 0}, false, nil, nil},
		{"turned over", two, turned(two), []int{1, 0}, true, []int{1, 0}, []int{0, 1}},
		{"onto a chain", square, three, []int{0, 1, 2, 2}, true, []int{0, 1, 3}, []int{0, 1, 3}},
		{"two of a square to one", square, three, []int{0, 1, 1, 1}, true, []int{0, 3, 3}, []int{0, 3}},
		{"the greatest one too high", square, three, []int{0, 1, 1, 2}, false, nil, nil},
		{"into a square", three, square, []int{0, 1, 3}, true, []int{0, 1, 0, 2}, []int{0, 1, 2}},
		{"not the least one", three, square, []int{1, 1, 3}, false, nil, nil},
		{"a diamond to itself, turned", diamond, diamond, []int{0, 2, 3, 1, 4}, true, []int{0, 3, 1, 2, 4}, []int{0, 1, 2, 3, 4}},
		{"a diamond to a square", diamond, square, []int{0, 1, 2, 3, 3}, true, []int{0, 1, 2, 4}, []int{0, 1, 2, 4}},
		{"two of a diamond alike", diamond, square, []int{0, 1, 1, 2, 3}, false, nil, nil},
		{"down", three, three, []int{0, 2, 1}, false, nil, nil},
		{"a star to two", samples.StarLattice(40), two, append([]int{0}, slices.Repeat([]int{1}, 39)...), true, []int{0, 39}, []int{0, 39}},
	} {
		if keeps, err := Keeps(c.a, c.b, c.f); err != api.OK || keeps != c.keeps {
			t.Errorf("%s: keeps %v, error %d", c.name, keeps, err)
		}
		if back, found, err := Back(c.a, c.b, c.f); err != api.OK || found != c.keeps || !slices.Equal(back, c.back) {
			t.Errorf("%s: back %v, %v, error %d, want %v", c.name, back, found, err, c.back)
		}
		want := api.OK
		if !c.keeps {
			want = api.ErrNone
		}
		if closed, err := Closed(c.a, c.b, c.f); err != want || !slices.Equal(closed, c.closed) {
			t.Errorf("%s: closed %v, error %d, want %v", c.name, closed, err, c.closed)
		}
	}
}

func TestN1N2ByTheirWords(t *testing.T) {
	kinds := map[bool]int{}
	for _, a := range tiny() {
		for _, b := range tiny() {
			if a.N+b.N > 9 {
				continue
			}
			for _, f := range samples.Maps(a.N, b.N) {
				kinds[isAsked(t, a, b, f)]++
			}
		}
	}
	if kinds[true] < 4000 || kinds[false] < 4000 {
		t.Errorf("maps that keep joins and others: %v", kinds)
	}
}

func TestN1N2OfGreatLattices(t *testing.T) {
	draw := new(samples.Draw)
	others := 0
	for _, c := range trials() {
		if !isAsked(t, c.a, c.b, c.f) {
			t.Fatalf("%v of %v to %v keeps no joins", c.f, c.a, c.b)
		}
		changed := slices.Clone(c.f)
		changed[draw.Next(c.a.N)] = draw.Next(c.b.N)
		if !isAsked(t, c.a, c.b, changed) {
			others++
		}
		isAsked(t, c.a, c.b, samples.DrawnMap(c.a.N, c.b.N, draw))
	}
	if others < 500 {
		t.Errorf("only %d changed maps kept no joins", others)
	}
}

// count of the maps from one lattice to another one that keep joins.
func count(a, b api.Lattice) int {
	n := 0
	for _, f := range samples.Maps(a.N, b.N) {
		if keeps, _ := Keeps(a, b, f); keeps {
			n++
		}
	}
	return n
}

func TestN1HowManyKeepJoins(t *testing.T) {
	two, square := samples.ChainLattice(2), samples.StarLattice(4)
	for _, b := range tiny() {
		// All sets of some points go anywhere, if each point does.
		for _, c := range []struct {
			a    api.Lattice
			want int
		}{{samples.ChainLattice(1), 1}, {two, b.N}, {square, b.N * b.N}} {
			if got := count(c.a, b); got != c.want {
				t.Errorf("of %v to %v: %d, want %d", c.a, b, got, c.want)
			}
		}
		// To two elements there is one for each that is the greatest to go to the least.
		if got := count(b, two); got != b.N {
			t.Errorf("of %v to two: %d", b, got)
		}
	}
}

func TestN1N2WrongMaps(t *testing.T) {
	for _, a := range []api.Lattice{samples.ChainLattice(1), samples.ChainLattice(3), samples.StarLattice(40)} {
		for _, b := range []api.Lattice{samples.ChainLattice(1), samples.StarLattice(5), samples.ChainLattice(40)} {
			for _, w := range samples.WrongMaps(a.N, b.N) {
				isRefused(t, a, b, w.Map, w.Err)
			}
		}
	}
	// A number that is an element of the first lattice, but none of the second; and what is no element comes ahead of there being no Back.
	isRefused(t, samples.ChainLattice(3), samples.ChainLattice(2), []int{0, 1, 2}, api.ErrRange)
	isRefused(t, samples.ChainLattice(3), samples.ChainLattice(3), []int{2, 0, 3}, api.ErrRange)
	isRefused(t, samples.ChainLattice(2), samples.ChainLattice(3), []int{2, 1, 0}, api.ErrForm)
}

// isRefused: all three calls tell the error, and nothing else.
func isRefused(t *testing.T, a, b api.Lattice, f []int, want api.Errno) {
	t.Helper()
	if keeps, err := Keeps(a, b, f); err != want || keeps {
		t.Errorf("Keeps(%v, %v, %v) = %v, error %d, want error %d", a, b, f, keeps, err, want)
	}
	if back, found, err := Back(a, b, f); err != want || found || back != nil {
		t.Errorf("Back(%v, %v, %v) = %v, %v, error %d, want error %d", a, b, f, back, found, err, want)
	}
	if closed, err := Closed(a, b, f); err != want || closed != nil {
		t.Errorf("Closed(%v, %v, %v) = %v, error %d, want error %d", a, b, f, closed, err, want)
	}
}

func TestJ1CheckIsToldFirst(t *testing.T) {
	lists := [][]int{nil, {0}, {0, 0}, {0, 1}, {-1, 9}, {0, 1, 2}}
	for _, w := range samples.WrongLattices() {
		for _, f := range lists {
			isRefused(t, w.Lattice, samples.ChainLattice(2), f, w.Err)
			isRefused(t, samples.ChainLattice(2), w.Lattice, f, w.Err)
		}
		for _, other := range samples.WrongLattices() {
			isRefused(t, w.Lattice, other.Lattice, []int{7}, w.Err)
		}
	}
}

func TestN3ThereIsABackJustIfJoinsAreKept(t *testing.T) {
	for _, a := range tiny() {
		for _, b := range tiny() {
			if a.N+b.N > 7 {
				continue
			}
			for _, f := range samples.Maps(a.N, b.N) {
				keeps, err1 := Keeps(a, b, f)
				_, found, err2 := Back(a, b, f)
				_, err3 := Closed(a, b, f)
				if err1 != api.OK || err2 != api.OK || keeps != found || found != (err3 == api.OK) {
					t.Fatalf("%v of %v to %v: keeps %v, back %v, errors %d, %d, %d", f, a, b, keeps, found, err1, err2, err3)
				}
			}
		}
	}
}

func TestN3OfBacks(t *testing.T) {
	for _, c := range trials() {
		a, b, f := c.a, c.b, c.f
		back, found, err := Back(a, b, f)
		if err != api.OK || !found || len(back) != b.N {
			t.Fatalf("Back(%v, %v, %v) = %v, %v, error %d", a, b, f, back, found, err)
		}
		// Meets are joins, turned over; and what leads back leads there, turned over.
		if keeps, err := Keeps(turned(b), turned(a), back); err != api.OK || !keeps {
			t.Fatalf("%v of %v to %v: the Back %v keeps no meets", f, a, b, back)
		}
		if there, found, err := Back(turned(b), turned(a), back); err != api.OK || !found || !slices.Equal(there, f) {
			t.Fatalf("%v of %v to %v: back and there is %v", f, a, b, there)
		}
		values := map[int]int{}
		for x, there := range f {
			values[there]++
			if f[back[there]] != there || !isUpTo(a, x, back[there]) {
				t.Fatalf("%v of %v to %v: %d goes to %d, back to %d, there to %d", f, a, b, x, there, back[there], f[back[there]])
			}
		}
		for y, x := range back {
			if back[f[x]] != x || !isUpTo(b, f[x], y) {
				t.Fatalf("%v of %v to %v: back of %d is %d, from there %d", f, a, b, y, x, f[x])
			}
		}
		if closed, err := Closed(a, b, f); err != api.OK || len(closed) != len(values) || !slices.IsSorted(closed) {
			t.Fatalf("Closed(%v, %v, %v) = %v, error %d, but something goes to %d", a, b, f, closed, err, len(values))
		}
	}
}

func TestThereAndBackIsAMonotoneMapThatLeavesWhatIsClosed(t *testing.T) {
	tried := 0
	for _, c := range trials() {
		back, _, _ := Back(c.a, c.b, c.f)
		closed, _ := Closed(c.a, c.b, c.f)
		round := make([]int, c.a.N)
		for x, there := range c.f {
			round[x] = back[there]
		}
		first, err1 := fix.Least(c.a, round)
		last, err2 := fix.Greatest(c.a, round)
		if err1 != api.OK || err2 != api.OK || !slices.Contains(closed, first) || !slices.Contains(closed, last) {
			t.Fatalf("%v by %v: %d, error %d; %d, error %d; closed are %v", c.a, round, first, err1, last, err2, closed)
		}
		for _, x := range closed {
			if !isUpTo(c.a, first, x) || !isUpTo(c.a, x, last) {
				t.Fatalf("%v: of the closed %v the ends are %d and %d", c.a, closed, first, last)
			}
		}
		o, err := lattice.Order(c.a)
		if err != api.OK {
			continue
		}
		tried++
		want := 0
		for _, x := range closed {
			want += 1 << x
		}
		if set, err := fix.Fixed(o, round); err != api.OK || set != want {
			t.Fatalf("Fixed(%v, %v) = %d, error %d, want %d", o, round, set, err, want)
		}
	}
	if tried < 500 {
		t.Errorf("only %d orders were tried", tried)
	}
}

func TestP2P3OnlyReadAndTheSameEachTime(t *testing.T) {
	draw := new(samples.Draw)
	rights := []api.Lattice{samples.ChainLattice(1), samples.ChainLattice(11), samples.StarLattice(7), samples.TimesLattice(samples.StarLattice(5), samples.StarLattice(8))}
	for _, one := range rights {
		for _, two := range rights {
			a, rooms := samples.RoomyLattice(one)
			b, more := samples.RoomyLattice(two)
			f, room := samples.Roomy(keeper(one, two, draw)...)
			rooms = append(append(rooms, more...), room)
			before := make([][]int, len(rooms))
			for i, room := range rooms {
				before[i] = slices.Clone(room)
			}
			for range 2 {
				isAsked(t, a, b, f)
				back, _, _ := Back(a, b, f)
				closed, _ := Closed(a, b, f)
				if samples.Shared(back, closed, f) {
					t.Fatalf("Back and Closed of %v share memory", f)
				}
				samples.Spoil(back)
				samples.Spoil(closed)
				if !reflect.DeepEqual(rooms, before) || !samples.HasRoom(a) || !samples.HasRoom(b) {
					t.Fatalf("%v, %v or %v was changed", one, two, f)
				}
			}
		}
	}
}
