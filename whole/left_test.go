package whole

import (
	"slices"
	"strconv"
	"strings"
	"testing"

	"hasse/api"
	"hasse/canon"
	"hasse/chain"
	"hasse/concept"
	"hasse/desk"
	"hasse/extend"
	"hasse/fix"
	"hasse/galois"
	"hasse/ideal"
	"hasse/lattice"
	"hasse/level"
	"hasse/moebius"
	"hasse/order"
	"hasse/samples"
	"hasse/scribe"
	"hasse/space"
)

func TestWhatIsLeftHasItsEulerAndItsPieces(t *testing.T) {
	for _, o := range tried(400) {
		core := right(fix.Core(o))
		left := right(order.Part(o, core))
		if right(moebius.Euler(left)) != right(moebius.Euler(o)) {
			t.Fatalf("%v has the Euler %d, what is left, %v, has %d", o, right(moebius.Euler(o)), left, right(moebius.Euler(left)))
		}
		// Each piece of what is left is all that is left of a piece.
		var want []int
		points := members(core)
		for _, piece := range right(space.Pieces(o)) {
			set := 0
			for place, point := range points {
				set |= piece >> point & 1 << place
			}
			want = append(want, set)
		}
		slices.Sort(want)
		if got := slices.Sorted(slices.Values(right(space.Pieces(left)))); !slices.Equal(got, want) {
			t.Fatalf("%v has the pieces %v; of them is left %v, and not %v", o, right(space.Pieces(o)), want, got)
		}
		if o.N <= api.MaxMaps && len(points) == 1 && !right(fix.Always(o)) {
			t.Fatalf("one point is left of %v, but not by each map", o)
		}
	}
}

// smallLattices of up to four elements, each numbered anew, too.
func smallLattices() []api.Lattice {
	var list []api.Lattice
	for _, l := range samples.SmallLattices() {
		if l.N <= 4 {
			list = append(list, l)
		}
	}
	return list
}

// follow a map, and then another one.
func follow(f, g []int) []int {
	var both []int
	for _, there := range f {
		both = append(both, g[there])
	}
	return both
}

// setOf a list's points.
func setOf(list []int) int {
	set := 0
	for _, point := range list {
		set |= 1 << point
	}
	return set
}

func TestThereAndBackIsAMonotoneMap(t *testing.T) {
	count := 0
	for _, a := range smallLattices() {
		o := right(lattice.Order(a))
		for _, b := range smallLattices() {
			p := right(lattice.Order(b))
			for _, f := range samples.Maps(a.N, b.N) {
				back, is := ifAny(galois.Back(a, b, f))
				if !is {
					continue
				}
				count++
				closed := right(galois.Closed(a, b, f))
				there := follow(f, back)
				if !right(fix.Monotone(o, p, f)) || !right(fix.Monotone(p, o, back)) || !right(fix.Monotone(o, o, there)) {
					t.Fatalf("%v to %v by %v, back by %v: not monotone", a, b, f, back)
				}
				if right(fix.Fixed(o, there)) != setOf(closed) || right(fix.Fixed(p, follow(back, f))) != setOf(f) {
					t.Fatalf("%v to %v by %v, back by %v: closed are %v", a, b, f, back, closed)
				}
				least, greatest := right(fix.Least(a, there)), right(fix.Greatest(a, there))
				for _, x := range closed {
					if a.Meet[least][x] != least || a.Join[greatest][x] != greatest {
						t.Fatalf("%v: of %v there are left from %d to %d", a, closed, least, greatest)
					}
				}
				if !right(space.Smooth(o, o, there)) {
					t.Fatalf("%v: %v is not smooth", o, there)
				}
			}
		}
	}
	if count < 500 {
		t.Errorf("%d maps lead back", count)
	}
}

// turned: the lattice the other way round.
func turned(l api.Lattice) api.Lattice { return api.Lattice{N: l.N, Meet: l.Join, Join: l.Meet} }

// contextOf elements of a lattice: of those that are things each has as marks those that it is, or is below.
func contextOf(l api.Lattice, things, marks []int) api.Context {
	c := samples.ContextOf(len(marks), make([]int, len(things))...)
	for thing, x := range things {
		for mark, y := range marks {
			if l.Meet[x][y] == x {
				c.Has[thing] |= 1 << mark
			}
		}
	}
	return c
}

// isOfConcepts: is a lattice that of a context's concepts, each element that of the things that are it or below it?
func isOfConcepts(l api.Lattice, things []int, c api.Context) bool {
	concepts := right(concept.Concepts(c))
	got := right(concept.Lattice(c))
	places := make([]int, l.N)
	for x := range l.N {
		set := 0
		for thing, y := range things {
			if l.Meet[x][y] == y {
				set |= 1 << thing
			}
		}
		places[x] = slices.IndexFunc(concepts, func(pair [2]int) bool { return pair[0] == set })
	}
	if got.N != l.N || slices.Contains(places, -1) {
		return false
	}
	for x := range l.N {
		for y := range l.N {
			if got.Meet[places[x]][places[y]] != places[l.Meet[x][y]] || got.Join[places[x]][places[y]] != places[l.Join[x][y]] {
				return false
			}
		}
	}
	return true
}

func TestEachLatticeIsOneOfConcepts(t *testing.T) {
	great := 0
	for _, l := range slices.Concat(samples.SmallLattices(), samples.GreatLattices(300)) {
		var all []int
		for x := range l.N {
			all = append(all, x)
		}
		if l.N <= api.MaxPoints && !isOfConcepts(l, all, contextOf(l, all, all)) {
			t.Fatalf("%v is not the lattice of its elements' concepts", l)
		}
		// The elements that no others make are enough, so that greater lattices are told, too.
		things, marks := right(ideal.Irreducible(l)), right(ideal.Irreducible(turned(l)))
		if len(things) > api.MaxPoints || len(marks) > api.MaxPoints {
			continue
		}
		if !isOfConcepts(l, things, contextOf(l, things, marks)) {
			t.Fatalf("%v is not the lattice of the concepts of %v and %v", l, things, marks)
		}
		if l.N > api.MaxPoints {
			great++
		}
	}
	if great < 50 {
		t.Errorf("%d great lattices were asked", great)
	}
}

// shown as at the desk.
func shown(o api.Order) string { return strings.ReplaceAll(right(scribe.Print(o)), " ", ",") }

// asked at the desk: what it answers, and what lies there then.
func asked(t *testing.T, d api.Desk, line string) (api.Desk, string) {
	t.Helper()
	next, answer, err := desk.Run(d, line)
	if err != api.OK {
		t.Fatalf("%q: error %d", line, err)
	}
	return next, answer
}

func TestWhatIsAskedAtTheDeskIsWhatCallsSay(t *testing.T) {
	for _, o := range tried(200) {
		d, _ := asked(t, api.Desk{}, "put o "+shown(o))
		for line, want := range map[string]string{
			"show o": shown(o),
			"rows o": strconv.Itoa(right(extend.Count(o))),
			"wide o": strconv.Itoa(len(members(right(chain.Widest(o))))),
			"long o": strconv.Itoa(len(right(level.Longest(o)))),
			"names":  "o",
		} {
			if _, answer := asked(t, d, line); answer != want {
				t.Fatalf("%v: %s: %q, want %q", o, line, answer, want)
			}
		}
		d, _ = asked(t, d, "dual p o")
		if !isSame(d.Orders[1], right(order.Dual(o))) {
			t.Fatalf("%v: dual p o: %v", o, d)
		}
	}
}

func TestWhatIsAskedOfTwoAtTheDesk(t *testing.T) {
	calls := map[string]func(a, b api.Order) (api.Order, api.Errno){"beside": order.Beside, "over": order.Over, "times": order.Times}
	orders := samples.GreatOrders(40)
	for n := range 4 {
		orders = append(orders, samples.Orders(n)...)
	}
	for _, a := range orders {
		for _, b := range orders {
			d := api.Desk{Names: []string{"a", "b"}, Orders: []api.Order{a, b}}
			for word, call := range calls {
				want, wantErr := call(a, b)
				got, answer, err := desk.Run(d, word+" c a b")
				if err != wantErr || answer != "" || err == api.OK && !isSame(got.Orders[2], want) {
					t.Fatalf("%s of %v and %v: %v, %q, error %d", word, a, b, got, answer, err)
				}
			}
			alike, wantErr := canon.Alike(a, b)
			_, answer, err := desk.Run(d, "alike a b")
			if err != wantErr || (answer == "yes") != alike || (answer == "no") != (err == api.OK && !alike) {
				t.Fatalf("alike of %v and %v: %q, error %d", a, b, answer, err)
			}
		}
	}
}
