package space

import (
	"math"
	"math/bits"
	"slices"
	"testing"

	"hasse/api"
	"hasse/fix"
	"hasse/heyting"
	"hasse/ideal"
	"hasse/moebius"
	"hasse/order"
	"hasse/samples"
)

// below tells an order by its sets.
func below(sets ...int) api.Order { return samples.Below(sets...) }

// tried orders: all small ones, those of five points in which numbers rise, numbered anew, and great ones.
func tried() []api.Order {
	orders := samples.SmallOrders()
	draw := new(samples.Draw)
	for _, o := range samples.NaturalOrders(5) {
		orders = append(orders, samples.Renumbered(o, draw))
	}
	orders = append(orders, samples.Apart(), samples.Rising(), samples.Falling(), samples.Storeys())
	return append(orders, samples.GreatOrders(120)...)
}

// someSets of an order's points: all of them, or, if there are many, each so manieth.
func someSets(o api.Order) []int {
	var list []int
	for set := 0; set < 1<<o.N; set += 1 + 1<<o.N/80 {
		list = append(list, set)
	}
	return append(list, 1<<o.N-1)
}

// has a set a point?
func has(set, point int) bool { return set>>point%2 == 1 }

// isOpen by the chapter's words.
func isOpen(o api.Order, set int) bool {
	for point := range o.N {
		for upper := range o.N {
			if has(set, point) && samples.IsBelow(o, point, upper) && !has(set, upper) {
				return false
			}
		}
	}
	return true
}

// isClosed by the chapter's words.
func isClosed(o api.Order, set int) bool {
	for point := range o.N {
		for lower := range o.N {
			if has(set, point) && samples.IsBelow(o, lower, point) && !has(set, lower) {
				return false
			}
		}
	}
	return true
}

// which sets of n points something is so of, rising.
func which(n int, isSo func(set int) bool) []int {
	list := []int{}
	for set := range 1 << n {
		if isSo(set) {
			list = append(list, set)
		}
	}
	return list
}

// plainOpens by the words of X1.
func plainOpens(o api.Order) []int { return which(o.N, func(set int) bool { return isOpen(o, set) }) }

// plainCloseds: all closed sets.
func plainCloseds(o api.Order) []int {
	return which(o.N, func(set int) bool { return isClosed(o, set) })
}

// leastWith all of a set, of those that are told: it has no more than any other one.
func leastWith(list []int, set int) int {
	for _, one := range list {
		least := one&set == set
		for _, other := range list {
			least = least && (other&set != set || one&other == one)
		}
		if least {
			return one
		}
	}
	return -1
}

// greatestIn a set, of those that are told: it has no less than any other one.
func greatestIn(list []int, set int) int {
	for _, one := range list {
		greatest := one&set == one
		for _, other := range list {
			greatest = greatest && (other&set != other || one|other == one)
		}
		if greatest {
			return one
		}
	}
	return -1
}

// plainTurns by the words of X2: sets are added to a list till none is new.
func plainTurns(o api.Order, closeds []int, set int) int {
	list := []int{set}
	for place := 0; place < len(list); place++ {
		for _, next := range []int{leastWith(closeds, list[place]), 1<<o.N - 1 - list[place]} {
			if !slices.Contains(list, next) {
				list = append(list, next)
			}
		}
	}
	return len(list)
}

// plainPieces by the words of X3: who comes to whom is worked out by as many steps as there are points.
func plainPieces(o api.Order) []int {
	comes := make([]int, o.N)
	for point := range comes {
		comes[point] = 1 << point
	}
	for range o.N {
		for from := range o.N {
			for through := range o.N {
				for to := range o.N {
					if has(comes[from], through) && (samples.IsBelow(o, through, to) || samples.IsBelow(o, to, through)) {
						comes[from] |= 1 << to
					}
				}
			}
		}
	}
	list := []int{}
	for _, set := range comes {
		if !slices.Contains(list, set) {
			list = append(list, set)
		}
	}
	return list
}

// plainSmooth by the words of X3.
func plainSmooth(a api.Order, opens []int, f []int) bool {
	for _, open := range opens {
		from := 0
		for point, goal := range f {
			if has(open, goal) {
				from += 1 << point
			}
		}
		if !isOpen(a, from) {
			return false
		}
	}
	return true
}

// opensOf a right order.
func opensOf(t *testing.T, o api.Order) []int {
	t.Helper()
	got, err := Opens(o)
	if err != api.OK {
		t.Fatalf("Opens(%v): error %d", o, err)
	}
	return got
}

// piecesOf a right order.
func piecesOf(t *testing.T, o api.Order) []int {
	t.Helper()
	got, err := Pieces(o)
	if err != api.OK {
		t.Fatalf("Pieces(%v): error %d", o, err)
	}
	return got
}

// number that is told of a set of a right order.
func number(t *testing.T, call func(api.Order, int) (int, api.Errno), o api.Order, set int) int {
	t.Helper()
	got, err := call(o, set)
	if err != api.OK {
		t.Fatalf("%v, set %d: error %d", o, set, err)
	}
	return got
}

// smooth, of what is right.
func smooth(t *testing.T, a, b api.Order, f []int) bool {
	t.Helper()
	got, err := Smooth(a, b, f)
	if err != api.OK {
		t.Fatalf("Smooth(%v, %v, %v): error %d", a, b, f, err)
	}
	return got
}

// same: is it this order?
func same(a, b api.Order) bool { return a.N == b.N && slices.Equal(a.Below, b.Below) }

func TestX1Opens(t *testing.T) {
	for _, c := range []struct {
		name string
		o    api.Order
		want []int
	}{
		{"no points", below(), []int{0}},
		{"one point", below(0), []int{0, 1}},
		{"the document's", below(0, 1), []int{0, 2, 3}},
		{"the other way round", below(2, 0), []int{0, 1, 3}},
		{"two apart", below(0, 0), []int{0, 1, 2, 3}},
		{"a chain", below(0, 1, 3), []int{0, 4, 6, 7}},
		{"one below two", below(0, 1, 1), []int{0, 2, 4, 6, 7}},
		{"two below one", below(0, 0, 3), []int{0, 4, 5, 6, 7}},
		{"ten in a chain", samples.Rising(), []int{0, 512, 768, 896, 960, 992, 1008, 1016, 1020, 1022, 1023}},
		{"and falling", samples.Falling(), []int{0, 1, 3, 7, 15, 31, 63, 127, 255, 511, 1023}},
	} {
		if got := opensOf(t, c.o); !slices.Equal(got, c.want) {
			t.Errorf("%s: Opens(%v) = %v, want %v", c.name, c.o, got, c.want)
		}
		if got, err := FromOpens(c.o.N, c.want); err != api.OK || !same(got, c.o) {
			t.Errorf("%s: FromOpens(%d, %v) = %v, error %d, want %v", c.name, c.o.N, c.want, got, err, c.o)
		}
	}
	if got := opensOf(t, samples.Apart()); !slices.Equal(got, samples.AllSets(10).Sets) {
		t.Errorf("of ten points apart %d sets are open", len(got))
	}
}

func TestX1OpensByTheirWords(t *testing.T) {
	for _, o := range tried() {
		if got, want := opensOf(t, o), plainOpens(o); !slices.Equal(got, want) {
			t.Fatalf("Opens(%v) = %v, want %v", o, got, want)
		}
	}
}

func TestX1X4OpenSetsSayWhatTheOrderIs(t *testing.T) {
	for _, o := range tried() {
		if got, err := FromOpens(o.N, plainOpens(o)); err != api.OK || !same(got, o) {
			t.Fatalf("FromOpens of the open sets of %v = %v, error %d", o, got, err)
		}
	}
}

// word of a family of up to four points: a number that has a bit for each of its sets.
func word(list []int) int {
	number := 0
	for _, set := range list {
		number |= 1 << set
	}
	return number
}

func TestX1FromOpensOfAllFamiliesOfFewPoints(t *testing.T) {
	for n := range 5 {
		by := map[int]api.Order{}
		for _, o := range samples.Orders(n) {
			by[word(plainOpens(o))] = o
		}
		if want := []int{1, 1, 3, 19, 219}[n]; len(by) != want {
			t.Fatalf("%d orders of %d points have their own open sets, want %d", len(by), n, want)
		}
		for _, f := range samples.Families(n) {
			want, found := by[word(f.Sets)]
			got, err := FromOpens(n, f.Sets)
			if found && (err != api.OK || !same(got, want)) {
				t.Fatalf("FromOpens(%d, %v) = %v, error %d, want %v", n, f.Sets, got, err, want)
			}
			if !found && (err != api.ErrState || got.N != 0 || got.Below != nil) {
				t.Fatalf("FromOpens(%d, %v) = %v, error %d, want error %d", n, f.Sets, got, err, api.ErrState)
			}
		}
	}
}

func TestX1NoSuchOrder(t *testing.T) {
	for _, c := range []struct {
		name  string
		n     int
		opens []int
	}{
		{"none is open", 0, nil},
		{"none is open of ten", 10, []int{}},
		{"no empty one", 2, []int{1, 2, 3}},
		{"not all together", 2, []int{0, 1, 2}},
		{"not what two have together", 3, []int{0, 1, 2, 7}},
		{"not what both have", 3, []int{0, 3, 6, 7}},
		{"two points are never apart", 2, []int{0, 3}},
		{"two of three points are never apart", 3, []int{0, 1, 6, 7}},
		{"a point is in none", 2, []int{0, 1}},
		{"only the empty one", 3, []int{0}},
		{"only all", 3, []int{7}},
		{"ten points never apart", 10, []int{0, 1023}},
	} {
		if got, err := FromOpens(c.n, c.opens); err != api.ErrState || got.N != 0 || got.Below != nil {
			t.Errorf("%s: FromOpens(%d, %v) = %v, error %d", c.name, c.n, c.opens, got, err)
		}
	}
}

func TestX1OneSetMoreOrLess(t *testing.T) {
	draw := new(samples.Draw)
	count := [2]int{}
	for _, o := range samples.GreatOrders(60) {
		opens := plainOpens(o)
		for range 40 {
			set := draw.Next(1 << o.N)
			if draw.Next(2) == 0 {
				set = opens[draw.Next(len(opens))]
			}
			var other []int
			if place, found := slices.BinarySearch(opens, set); found {
				other = slices.Delete(slices.Clone(opens), place, place+1)
			} else {
				other = slices.Insert(slices.Clone(opens), place, set)
			}
			got, err := FromOpens(o.N, other)
			if err == api.OK {
				count[0]++
				if !slices.Equal(plainOpens(got), other) {
					t.Fatalf("FromOpens(%d, %v) = %v", o.N, other, got)
				}
				continue
			}
			count[1]++
			if err != api.ErrState || got.N != 0 || got.Below != nil {
				t.Fatalf("FromOpens(%d, %v) = %v, error %d", o.N, other, got, err)
			}
			if isSpace(o.N, other) {
				t.Fatalf("FromOpens(%d, %v): error %d, but they are those of an order", o.N, other, err)
			}
		}
	}
	if count[0] < 5 || count[1] < 1000 {
		t.Errorf("orders, and none: %v", count)
	}
}

// isSpace tells whether there is an order with these open sets: with two sets all of their points and those that both have are open, none and all are, and of each two points one is without the other.
func isSpace(n int, opens []int) bool {
	is := make([]bool, 1<<n)
	for _, open := range opens {
		is[open] = true
	}
	if !is[0] || !is[1<<n-1] {
		return false
	}
	for _, one := range opens {
		for _, other := range opens {
			if !is[one|other] || !is[one&other] {
				return false
			}
		}
	}
	for a := range n {
		for b := range a {
			if !slices.ContainsFunc(opens, func(open int) bool { return has(open, a) != has(open, b) }) {
				return false
			}
		}
	}
	return true
}

func TestX1WrongOpens(t *testing.T) {
	for _, w := range samples.WrongFamilies() {
		if got, err := FromOpens(w.Family.N, w.Family.Sets); err != w.Err || got.N != 0 || got.Below != nil {
			t.Errorf("FromOpens(%d, %v) = %v, error %d, want error %d", w.Family.N, w.Family.Sets, got, err, w.Err)
		}
	}
}

func TestX2(t *testing.T) {
	fork := below(0, 1, 1)
	for _, c := range []struct {
		name                        string
		o                           api.Order
		set, closure, inside, turns int
	}{
		{"no points", below(), 0, 0, 0, 1},
		{"none of one", below(0), 0, 0, 0, 2},
		{"all of one", below(0), 1, 1, 1, 2},
		{"apart, what is told stays", below(0, 0, 0), 5, 5, 5, 2},
		{"the lower of two", below(0, 1), 1, 1, 0, 4},
		{"the upper of two", below(0, 1), 2, 3, 2, 4},
		{"the middle of three", below(0, 1, 3), 2, 3, 0, 6},
		{"the ends of three", below(0, 1, 3), 5, 7, 4, 6},
		{"one tip of a fork", fork, 2, 3, 2, 4},
		{"both tips", fork, 6, 7, 6, 4},
		{"the stem and a tip", fork, 3, 3, 2, 4},
		{"what has eight turns", below(0, 0, 2, 1), 5, 7, 4, 8},
		{"what has ten turns", below(0, 0, 0, 5, 3), 10, 15, 8, 10},
		{"all of ten", samples.Storeys(), 1023, 1023, 1023, 2},
		{"a point of the third storey", samples.Storeys(), 16, 31, 0, 6},
		{"the top", samples.Rising(), 512, 1023, 512, 4},
		{"the bottom", samples.Rising(), 1, 1, 0, 4},
	} {
		if got := number(t, Closure, c.o, c.set); got != c.closure {
			t.Errorf("%s: Closure(%v, %d) = %d, want %d", c.name, c.o, c.set, got, c.closure)
		}
		if got := number(t, Inside, c.o, c.set); got != c.inside {
			t.Errorf("%s: Inside(%v, %d) = %d, want %d", c.name, c.o, c.set, got, c.inside)
		}
		if got := number(t, Turns, c.o, c.set); got != c.turns {
			t.Errorf("%s: Turns(%v, %d) = %d, want %d", c.name, c.o, c.set, got, c.turns)
		}
	}
}

func TestX2ByItsWords(t *testing.T) {
	turns := map[int]int{}
	for _, o := range tried() {
		opens, closeds := plainOpens(o), plainCloseds(o)
		for _, set := range someSets(o) {
			if got, want := number(t, Closure, o, set), leastWith(closeds, set); got != want {
				t.Fatalf("Closure(%v, %d) = %d, want %d", o, set, got, want)
			}
			if got, want := number(t, Inside, o, set), greatestIn(opens, set); got != want {
				t.Fatalf("Inside(%v, %d) = %d, want %d", o, set, got, want)
			}
			if len(closeds) > 200 {
				continue
			}
			got, want := number(t, Turns, o, set), plainTurns(o, closeds, set)
			if got != want {
				t.Fatalf("Turns(%v, %d) = %d, want %d", o, set, got, want)
			}
			turns[got]++
		}
	}
	for _, count := range []int{1, 2, 4, 6, 8, 10} {
		if turns[count] == 0 {
			t.Errorf("no set has %d turns: %v", count, turns)
		}
	}
}

func TestX4ClosingAgainDoesNothing(t *testing.T) {
	for _, o := range tried() {
		for _, set := range someSets(o) {
			closed, open := number(t, Closure, o, set), number(t, Inside, o, set)
			if number(t, Closure, o, closed) != closed || number(t, Inside, o, open) != open || set&closed != set || set&open != open {
				t.Fatalf("%v, %d: closed %d, open %d", o, set, closed, open)
			}
		}
	}
}

func TestX4ClosingClosesEachOfTwoSetsApart(t *testing.T) {
	for _, o := range tried() {
		list := someSets(o)
		for i, one := range list {
			for _, other := range list[:i] {
				if (one+other)%3 > 0 {
					continue
				}
				if got, want := number(t, Closure, o, one|other), number(t, Closure, o, one)|number(t, Closure, o, other); got != want {
					t.Fatalf("Closure(%v, %d) = %d, want %d", o, one|other, got, want)
				}
				if got, want := number(t, Inside, o, one&other), number(t, Inside, o, one)&number(t, Inside, o, other); got != want {
					t.Fatalf("Inside(%v, %d) = %d, want %d", o, one&other, got, want)
				}
			}
		}
	}
}

func TestX4NoSetHasMoreThan14Turns(t *testing.T) {
	most := 0
	for _, o := range append(tried(), samples.GreatOrders(400)...) {
		for set := range 1 << o.N {
			got := number(t, Turns, o, set)
			if got > 14 {
				t.Fatalf("Turns(%v, %d) = %d", o, set, got)
			}
			most = max(most, got)
			if rest := 1<<o.N - 1 - set; set < 8 && number(t, Turns, o, rest) != got {
				t.Fatalf("Turns(%v, %d) is another one than of the rest %d", o, set, rest)
			}
		}
	}
	// Where points that no open set parts are the same, none has more.
	if most != 10 {
		t.Errorf("the most turns are %d", most)
	}
}

func TestX3Pieces(t *testing.T) {
	for _, c := range []struct {
		name string
		o    api.Order
		want []int
	}{
		{"no points", below(), []int{}},
		{"one point", below(0), []int{1}},
		{"two apart", below(0, 0), []int{1, 2}},
		{"two together", below(0, 1), []int{3}},
		{"by one below both", below(0, 1, 1), []int{7}},
		{"by one above both", below(6, 0, 0), []int{7}},
		{"up and down again", below(0, 0, 3, 2), []int{15}},
		{"two chains in one another", below(0, 0, 1, 2), []int{5, 10}},
		{"by their least points", below(8, 0, 2, 0), []int{9, 6}},
		{"one alone in the midst", below(0, 0, 1), []int{5, 2}},
		{"a long zigzag", below(0, 5, 0, 20, 0, 80, 0, 320, 0, 256), []int{1023}},
		{"a zigzag in two", below(0, 5, 0, 16, 0, 80, 0, 320, 0, 256), []int{7, 1016}},
		{"ten apart", samples.Apart(), []int{1, 2, 4, 8, 16, 32, 64, 128, 256, 512}},
		{"ten in a chain", samples.Falling(), []int{1023}},
	} {
		if got := piecesOf(t, c.o); !slices.Equal(got, c.want) {
			t.Errorf("%s: Pieces(%v) = %v, want %v", c.name, c.o, got, c.want)
		}
	}
}

func TestX3PiecesByTheirWords(t *testing.T) {
	counts := map[int]int{}
	for _, o := range tried() {
		got, want := piecesOf(t, o), plainPieces(o)
		if !slices.Equal(got, want) {
			t.Fatalf("Pieces(%v) = %v, want %v", o, got, want)
		}
		counts[len(got)]++
	}
	if len(counts) < 6 || counts[2] < 50 || counts[3] < 20 {
		t.Errorf("as many pieces: %v", counts)
	}
}

func TestX3WhatIsOpenAndClosedIsOfWholePieces(t *testing.T) {
	for _, o := range tried() {
		pieces := piecesOf(t, o)
		for _, set := range someSets(o) {
			whole := true
			for _, piece := range pieces {
				whole = whole && (set&piece == 0 || set&piece == piece)
			}
			if both := number(t, Closure, o, set) == set && number(t, Inside, o, set) == set; both != whole {
				t.Fatalf("%v, %d: open and closed %v, but of whole pieces %v", o, set, both, whole)
			}
		}
	}
}

func TestX3Smooth(t *testing.T) {
	chain := below(0, 1, 3)
	for _, c := range []struct {
		name string
		a, b api.Order
		f    []int
		want bool
	}{
		{"none to none", below(), below(), nil, true},
		{"none to none, not nil", below(), below(), []int{}, true},
		{"none to some", below(), chain, nil, true},
		{"one to one", below(0), below(0), []int{0}, true},
		{"each to itself", chain, chain, []int{0, 1, 2}, true},
		{"turned over", chain, chain, []int{2, 1, 0}, false},
		{"all to one", chain, below(0, 0), []int{1, 1, 1}, true},
		{"what hangs together is torn", below(0, 1), below(0, 0), []int{0, 1}, false},
		{"what is apart goes anywhere", below(0, 0), chain, []int{2, 0}, true},
		{"up and down", below(0, 0, 3), chain, []int{1, 0, 1}, true},
		{"not low enough", below(0, 0, 3), chain, []int{1, 2, 1}, false},
		{"ten in a chain", samples.Rising(), samples.Rising(), []int{0, 0, 1, 1, 2, 5, 7, 8, 9, 9}, true},
		{"ten in a chain, one falls", samples.Rising(), samples.Rising(), []int{0, 0, 1, 1, 2, 5, 7, 9, 8, 9}, false},
		{"ten in a chain to ten that fall", samples.Rising(), samples.Falling(), []int{9, 8, 7, 6, 5, 4, 3, 2, 1, 0}, true},
	} {
		if got := smooth(t, c.a, c.b, c.f); got != c.want {
			t.Errorf("%s: Smooth(%v, %v, %v) = %v", c.name, c.a, c.b, c.f, got)
		}
	}
}

// isAsked of a map: is it smooth by the words, just if it is monotone, and if so, does it keep pieces together? It answers whether it is.
func isAsked(t *testing.T, a, b api.Order, opens, f []int) bool {
	t.Helper()
	got := smooth(t, a, b, f)
	if got != plainSmooth(a, opens, f) {
		t.Fatalf("Smooth(%v, %v, %v) = %v", a, b, f, got)
	}
	monotone, err := fix.Monotone(a, b, f)
	if err != api.OK || got != monotone {
		t.Fatalf("Smooth(%v, %v, %v) = %v, Monotone %v, error %d", a, b, f, got, monotone, err)
	}
	if !got {
		return false
	}
	for _, piece := range piecesOf(t, a) {
		goals := 0
		for point, goal := range f {
			if has(piece, point) {
				goals |= 1 << goal
			}
		}
		if !slices.ContainsFunc(piecesOf(t, b), func(other int) bool { return goals&other == goals }) {
			t.Fatalf("%v from %v to %v is smooth, but the piece %d goes to %d", f, a, b, piece, goals)
		}
	}
	return true
}

func TestX3X4SmoothIsMonotoneAndKeepsPiecesTogether(t *testing.T) {
	count := [2]int{}
	ask := func(a, b api.Order, opens, f []int) {
		if isAsked(t, a, b, opens, f) {
			count[1]++
		} else {
			count[0]++
		}
	}
	small := samples.SmallOrders()
	for i, a := range small {
		for j, b := range small {
			if a.N+b.N > 5 && (i+j)%23 > 0 {
				continue
			}
			opens := plainOpens(b)
			for _, f := range samples.Maps(a.N, b.N) {
				ask(a, b, opens, f)
			}
		}
	}
	draw := new(samples.Draw)
	great := samples.GreatOrders(150)
	for i, a := range great {
		b := great[(i*7+3)%len(great)]
		opens := plainOpens(b)
		for range 5 {
			ask(a, b, opens, samples.DrawnMap(a.N, b.N, draw))
		}
		for _, f := range climbing(a, b, draw) {
			ask(a, b, opens, f)
		}
	}
	if count[0] < 10000 || count[1] < 10000 {
		t.Errorf("not smooth, and smooth: %v", count)
	}
}

// climbing maps: by how much is below a point it goes up a chain of b, so that they are monotone; and the same with one point gone elsewhere.
func climbing(a, b api.Order, draw *samples.Draw) [][]int {
	chain := []int{draw.Next(b.N)}
	for point := range b.N {
		if samples.IsBelow(b, chain[len(chain)-1], point) {
			chain = append(chain, point)
		}
	}
	f := make([]int, a.N)
	for point, set := range a.Below {
		f[point] = chain[min(len(chain)-1, bits.OnesCount(uint(set))/2)]
	}
	other := slices.Clone(f)
	other[draw.Next(a.N)] = draw.Next(b.N)
	return [][]int{f, other}
}

func TestX3SmoothTellsTheErrorsOfMonotone(t *testing.T) {
	rights := []api.Order{below(), below(0), below(0, 0), below(0, 1, 3), samples.Storeys()}
	count := 0
	for _, a := range rights {
		for _, b := range rights {
			for _, w := range samples.WrongMaps(a.N, b.N) {
				count++
				if got, err := Smooth(a, b, w.Map); err != w.Err || got {
					t.Errorf("Smooth(%v, %v, %v) = %v, error %d, want error %d", a, b, w.Map, got, err, w.Err)
				}
			}
		}
	}
	if got, err := Smooth(below(0), below(), []int{0}); err != api.ErrRange || got {
		t.Errorf("one point to none: %v, error %d", got, err)
	}
	if count < 300 {
		t.Errorf("only %d wrong maps", count)
	}
}

func TestX2WrongSets(t *testing.T) {
	for _, o := range append(samples.SmallOrders(), samples.Apart(), samples.Rising(), samples.Storeys()) {
		for _, set := range []int{-1, -2, 1 << o.N, 1<<o.N + 1, 1<<(o.N+1) - 1, 1 << 10, 1 << 40, math.MaxInt, math.MinInt} {
			for i, call := range []func(api.Order, int) (int, api.Errno){Closure, Inside, Turns} {
				if got, err := call(o, set); err != api.ErrRange || got != 0 {
					t.Errorf("call %d of %v, %d: %d, error %d", i, o, set, got, err)
				}
			}
		}
	}
}

// dualOf a right order.
func dualOf(t *testing.T, o api.Order) api.Order {
	t.Helper()
	dual, err := order.Dual(o)
	if err != api.OK {
		t.Fatalf("Dual(%v): error %d", o, err)
	}
	return dual
}

func TestTheWholeIdealsAreToldAlike(t *testing.T) {
	two := below(0, 1)
	lattices, maps := 0, 0
	for _, o := range tried() {
		opens := opensOf(t, dualOf(t, o))
		ideals, err := order.Ideals(o)
		if err != api.OK || !slices.Equal(opens, ideals) {
			t.Fatalf("%v: ideals %v, open in the dual %v, error %d", o, ideals, opens, err)
		}
		if l, err := ideal.Lattice(o); err == api.OK {
			lattices++
			if l.N != len(opens) {
				t.Fatalf("%v: a lattice of %d, %d are open", o, l.N, len(opens))
			}
		}
		if o.N <= api.MaxMaps {
			maps++
			if count, err := fix.Count(o, two); err != api.OK || count != len(opens) {
				t.Fatalf("%v: %d maps to two points, error %d, %d are open", o, count, err, len(opens))
			}
		}
	}
	if lattices < 300 || maps < 300 {
		t.Errorf("%d lattices, %d counts", lattices, maps)
	}
}

func TestTheWholeTurnedOver(t *testing.T) {
	for _, o := range tried() {
		dual := dualOf(t, o)
		all := 1<<o.N - 1
		rests := opensOf(t, dual)
		slices.Reverse(rests)
		for i := range rests {
			rests[i] = all - rests[i]
		}
		if !slices.Equal(opensOf(t, o), rests) || !slices.Equal(piecesOf(t, o), piecesOf(t, dual)) {
			t.Fatalf("%v and %v: the rests of what is open are %v, the pieces %v", o, dual, rests, piecesOf(t, dual))
		}
		for _, set := range someSets(o) {
			if got, want := number(t, Inside, o, set), all-number(t, Closure, o, all-set); got != want {
				t.Fatalf("Inside(%v, %d) = %d, want %d", o, set, got, want)
			}
		}
	}
}

// renamed: where the points of a set went.
func renamed(set int, names []int) int {
	other := 0
	for point, name := range names {
		if has(set, point) {
			other |= 1 << name
		}
	}
	return other
}

func TestTheWholeHoweverNumbered(t *testing.T) {
	draw := new(samples.Draw)
	for _, o := range tried() {
		names := make([]int, o.N)
		for i := range names {
			k := draw.Next(i + 1)
			names[i], names[k] = names[k], i
		}
		sets := make([]int, o.N)
		for point, name := range names {
			sets[name] = renamed(o.Below[point], names)
		}
		other := below(sets...)
		if len(opensOf(t, o)) != len(opensOf(t, other)) || len(piecesOf(t, o)) != len(piecesOf(t, other)) {
			t.Fatalf("%v and %v are told otherwise", o, other)
		}
		for _, set := range someSets(o) {
			there := renamed(set, names)
			if number(t, Turns, o, set) != number(t, Turns, other, there) ||
				renamed(number(t, Closure, o, set), names) != number(t, Closure, other, there) ||
				renamed(number(t, Inside, o, set), names) != number(t, Inside, other, there) {
				t.Fatalf("%v, %d and %v, %d are told otherwise", o, set, other, there)
			}
		}
	}
}

func TestTheWholeWhatIsLeftHasItsEulerAndItsPieces(t *testing.T) {
	less := 0
	for _, o := range tried() {
		left, err := fix.Core(o)
		if err != api.OK {
			t.Fatalf("Core(%v): error %d", o, err)
		}
		part, err := order.Part(o, left)
		if err != api.OK {
			t.Fatalf("Part(%v, %d): error %d", o, left, err)
		}
		if part.N < o.N {
			less++
		}
		euler, _ := moebius.Euler(o)
		again, _ := moebius.Euler(part)
		if euler != again || len(piecesOf(t, o)) != len(piecesOf(t, part)) {
			t.Fatalf("%v has Euler %d and pieces %v, what is left %v has %d and %v", o, euler, piecesOf(t, o), part, again, piecesOf(t, part))
		}
		for _, piece := range piecesOf(t, o) {
			if piece&left == 0 {
				t.Fatalf("of %v nothing is left of the piece %d", o, piece)
			}
		}
	}
	if less < 300 {
		t.Errorf("only of %d orders something was taken away", less)
	}
}

func TestTheWholeWhatIsForcedIsOpen(t *testing.T) {
	// Of an order, not of a variable is forced where nothing above it is: what is inside the rest of what is true.
	x := api.Formula{Kind: api.FormulaVar}
	not := api.Formula{Kind: api.FormulaImplies, Kids: []api.Formula{x, {Kind: api.FormulaFalse}}}
	for _, o := range samples.SmallOrders() {
		for _, open := range opensOf(t, o) {
			want := number(t, Inside, o, 1<<o.N-1-open)
			for point := range o.N {
				got, err := heyting.Forces(o, []int{open, 0, 0}, point, not)
				if err != api.OK || got != has(want, point) {
					t.Fatalf("%v: at %d not %d is forced %v, error %d, inside is %d", o, point, open, got, err, want)
				}
			}
		}
	}
}

func TestA1CheckIsToldFirst(t *testing.T) {
	for _, w := range samples.WrongOrders() {
		if got, err := Opens(w.Order); err != w.Err || got != nil {
			t.Errorf("Opens(%v) = %v, error %d, want error %d", w.Order, got, err, w.Err)
		}
		if got, err := Pieces(w.Order); err != w.Err || got != nil {
			t.Errorf("Pieces(%v) = %v, error %d, want error %d", w.Order, got, err, w.Err)
		}
		for _, set := range []int{0, 1, -1, 1 << 10, math.MaxInt, math.MinInt} {
			for i, call := range []func(api.Order, int) (int, api.Errno){Closure, Inside, Turns} {
				if got, err := call(w.Order, set); err != w.Err || got != 0 {
					t.Errorf("call %d of %v, %d: %d, error %d, want error %d", i, w.Order, set, got, err, w.Err)
				}
			}
		}
		for _, f := range [][]int{nil, {0}, {1, 0}, {0, 0, 0}, {-1, math.MaxInt}, {0, 5}} {
			for _, right := range []api.Order{below(), below(0, 0), samples.Rising()} {
				if got, err := Smooth(w.Order, right, f); err != w.Err || got {
					t.Errorf("Smooth(%v, %v, %v) = %v, error %d, want error %d", w.Order, right, f, got, err, w.Err)
				}
				if got, err := Smooth(right, w.Order, f); err != w.Err || got {
					t.Errorf("Smooth(%v, %v, %v) = %v, error %d, want error %d", right, w.Order, f, got, err, w.Err)
				}
			}
		}
		for _, other := range samples.WrongOrders() {
			if got, err := Smooth(w.Order, other.Order, []int{7}); err != w.Err || got {
				t.Errorf("Smooth(%v, %v) = %v, error %d, want error %d", w.Order, other.Order, got, err, w.Err)
			}
		}
	}
}

func TestP2P3OnlyReadAndTheSameEachTime(t *testing.T) {
	for _, one := range []api.Order{below(), below(0), below(2, 0), below(0, 0, 0, 5, 3), samples.Storeys(), samples.Apart()} {
		list, room := samples.Roomy(one.Below...)
		o := api.Order{N: one.N, Below: list}
		opens, opensRoom := samples.Roomy(plainOpens(one)...)
		f, mapRoom := samples.Roomy(make([]int, one.N)...)
		rooms := func() []int { return slices.Concat(room, opensRoom, mapRoom) }
		before := rooms()
		for range 3 {
			gotOpens, gotPieces := opensOf(t, o), piecesOf(t, o)
			from, err := FromOpens(o.N, opens)
			if err != api.OK || !same(from, one) || !slices.Equal(gotOpens, opens) || !slices.Equal(gotPieces, plainPieces(one)) {
				t.Fatalf("%v: %v, %v, %v, error %d", one, gotOpens, gotPieces, from, err)
			}
			set := 10 & (1<<o.N - 1)
			if number(t, Closure, o, set) != leastWith(plainCloseds(one), set) || number(t, Inside, o, set) != greatestIn(opens, set) || number(t, Turns, o, set) != plainTurns(one, plainCloseds(one), set) || !smooth(t, o, o, f) {
				t.Fatalf("%v, %d is told otherwise", one, set)
			}
			if samples.Shared(gotOpens, gotPieces, from.Below, list, opens, f) || !slices.Equal(before, rooms()) {
				t.Fatalf("%v was changed, or is shared", one)
			}
			samples.Spoil(gotOpens)
			samples.Spoil(gotPieces)
			samples.Spoil(from.Below)
		}
	}
}
