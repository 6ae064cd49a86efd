package canon

import (
	"math"
	"slices"
	"sync"
	"testing"

	"hasse/api"
	"hasse/chain"
	"hasse/extend"
	"hasse/level"
	"hasse/order"
	"hasse/samples"
)

// below tells an order by its sets.
func below(sets ...int) api.Order { return samples.Below(sets...) }

// crown: three points, and above each two of them one.
func crown() api.Order { return below(0, 0, 0, 6, 5, 3) }

// tried orders: all of up to four points, all of five points, and drawn ones of six, numbered any way.
func tried() []api.Order {
	orders := samples.SmallOrders()
	draw := new(samples.Draw)
	for _, natural := range samples.NaturalOrders(5) {
		orders = append(orders, samples.Renumbered(natural, draw))
	}
	for _, o := range samples.GreatOrders(300) {
		if o.N == 6 {
			orders = append(orders, o)
		}
	}
	return append(orders, below(0, 0, 0, 0, 0, 0), below(62, 60, 56, 48, 32, 0), crown())
}

// formed: a right order's form, and the list.
func formed(t *testing.T, o api.Order) (api.Order, []int) {
	t.Helper()
	form, list, err := Form(o)
	if err != api.OK {
		t.Fatalf("Form(%v): error %d", o, err)
	}
	return form, list
}

// movesOf a right order.
func movesOf(t *testing.T, o api.Order) [][]int {
	t.Helper()
	moves, err := Moves(o)
	if err != api.OK {
		t.Fatalf("Moves(%v): error %d", o, err)
	}
	return moves
}

// areAlike: two right orders?
func areAlike(t *testing.T, a, b api.Order) bool {
	t.Helper()
	alike, err := Alike(a, b)
	if err != api.OK {
		t.Fatalf("Alike(%v, %v): error %d", a, b, err)
	}
	return alike
}

// allOf n points.
func allOf(t *testing.T, n int) []api.Order {
	t.Helper()
	forms, err := All(n)
	if err != api.OK {
		t.Fatalf("All(%d): error %d", n, err)
	}
	return forms
}

// isSame: are two orders the same, point by point?
func isSame(a, b api.Order) bool { return a.N == b.N && slices.Equal(a.Below, b.Below) }

// byList: an order renumbered by a list, by the words of the chapter.
func byList(o api.Order, list []int) api.Order {
	sets := make([]int, o.N)
	for i := range list {
		for k := range list {
			if samples.IsBelow(o, list[k], list[i]) {
				sets[i] |= 1 << k
			}
		}
	}
	return below(sets...)
}

// plainForm by the words of BB1: all lists are tried, and the first one that does it is kept.
func plainForm(o api.Order) (api.Order, []int) {
	all := samples.Lists(o.N)
	best := slices.MinFunc(all, func(a, b []int) int { return slices.Compare(byList(o, a).Below, byList(o, b).Below) })
	form := byList(o, best)
	first := slices.IndexFunc(all, func(list []int) bool { return isSame(byList(o, list), form) })
	return form, all[first]
}

func TestBB1Form(t *testing.T) {
	for _, c := range []struct {
		name    string
		o, want api.Order
		list    []int
	}{
		{"no points", below(), below(), nil},
		{"no points, none at all", api.Order{}, below(), nil},
		{"one point", below(0), below(0), []int{0}},
		{"two apart", below(0, 0), below(0, 0), []int{0, 1}},
		{"two in a chain", below(0, 1), below(0, 1), []int{0, 1}},
		{"two in a chain, the other way round", below(2, 0), below(0, 1), []int{1, 0}},
		{"two below one", below(6, 0, 0), below(0, 0, 3), []int{1, 2, 0}},
		{"two above one", below(2, 0, 2), below(0, 1, 1), []int{1, 0, 2}},
		{"one beside two", below(4, 0, 0), below(0, 0, 1), []int{2, 1, 0}},
		{"a zigzag", below(0, 0, 3, 2), below(0, 0, 1, 3), []int{1, 0, 3, 2}},
		{"two pairs", below(0, 1, 0, 4), below(0, 0, 1, 2), []int{0, 2, 1, 3}},
		{"two beside three", below(0, 1, 3, 0, 8), below(0, 0, 1, 2, 5), []int{0, 3, 1, 4, 2}},
		{"six apart", below(0, 0, 0, 0, 0, 0), below(0, 0, 0, 0, 0, 0), []int{0, 1, 2, 3, 4, 5}},
		{"six in a chain, the other way round", below(62, 60, 56, 48, 32, 0), below(0, 1, 3, 7, 15, 31), []int{5, 4, 3, 2, 1, 0}},
		{"a crown", crown(), below(0, 0, 0, 3, 5, 6), []int{0, 1, 2, 5, 4, 3}},
		{"three pairs", below(0, 1, 0, 4, 0, 16), below(0, 0, 0, 1, 2, 4), []int{0, 2, 4, 1, 3, 5}},
		{"one above all others", below(62, 0, 0, 0, 0, 0), below(0, 0, 0, 0, 0, 31), []int{1, 2, 3, 4, 5, 0}},
	} {
		if form, list := formed(t, c.o); !isSame(form, c.want) || !slices.Equal(list, c.list) {
			t.Errorf("%s: Form(%v) = %v, %v, want %v, %v", c.name, c.o, form, list, c.want, c.list)
		}
	}
}

func TestBB1FormByItsWords(t *testing.T) {
	for _, o := range tried() {
		want, first := plainForm(o)
		form, list := formed(t, o)
		if !isSame(form, want) || !slices.Equal(list, first) {
			t.Fatalf("Form(%v) = %v, %v, want %v, %v", o, form, list, want, first)
		}
		if !samples.IsOrder(form.Below) {
			t.Fatalf("Form(%v) = %v is no order", o, form)
		}
	}
}

func TestBB1AlikeByItsWords(t *testing.T) {
	alike := map[int]int{}
	for n := range 5 {
		orders := samples.Orders(n)
		for _, a := range orders {
			ways := map[[4]int]int{}
			for _, list := range samples.Lists(n) {
				var key [4]int
				copy(key[:], byList(a, list).Below)
				ways[key]++
			}
			for _, b := range orders {
				var key [4]int
				copy(key[:], b.Below)
				if got := areAlike(t, a, b); got != (ways[key] > 0) {
					t.Fatalf("Alike(%v, %v) = %v", a, b, got)
				} else if got {
					alike[n]++
				}
			}
		}
	}
	// Each form has as many orders as there are ways to renumber over its moves, and each two of these are alike.
	for n, want := range []int{1, 1, 1 + 4, 1 + 36 + 9 + 9 + 36} {
		if alike[n] != want {
			t.Errorf("of %d points %d pairs are alike, want %d", n, alike[n], want)
		}
	}
}

func TestBB1Alike(t *testing.T) {
	for _, c := range []struct {
		name string
		a, b api.Order
		want bool
	}{
		{"no points", below(), api.Order{}, true},
		{"none and one", below(), below(0), false},
		{"one and two", below(0), below(0, 0), false},
		{"two apart and one beside them", below(0, 0), below(0, 0, 0), false},
		{"chains", below(0, 1, 3), below(6, 4, 0), true},
		{"one above two and two above one", below(0, 0, 3), below(0, 1, 1), false},
		{"a zigzag, turned over", below(0, 0, 3, 2), below(4, 12, 0, 0), true},
		{"four pairs each, as many least and greatest points, but otherwise", below(0, 0, 1, 1, 3), below(0, 0, 1, 2, 3), false},
		{"six points", crown(), below(48, 40, 24, 0, 0, 0), true},
		{"six points, a pair less", crown(), below(0, 0, 0, 6, 5, 1), false},
		{"five and six apart", below(0, 0, 0, 0, 0), below(0, 0, 0, 0, 0, 0), false},
	} {
		for _, pair := range [][2]api.Order{{c.a, c.b}, {c.b, c.a}} {
			if got := areAlike(t, pair[0], pair[1]); got != c.want {
				t.Errorf("%s: Alike(%v, %v) = %v", c.name, pair[0], pair[1], got)
			}
		}
	}
}

func TestBB1Moves(t *testing.T) {
	for _, c := range []struct {
		name string
		o    api.Order
		want [][]int
	}{
		{"no points", below(), [][]int{{}}},
		{"one point", below(0), [][]int{{0}}},
		{"two apart", below(0, 0), [][]int{{0, 1}, {1, 0}}},
		{"two in a chain", below(2, 0), [][]int{{0, 1}}},
		{"three apart", below(0, 0, 0), [][]int{{0, 1, 2}, {0, 2, 1}, {1, 0, 2}, {1, 2, 0}, {2, 0, 1}, {2, 1, 0}}},
		{"a zigzag", below(0, 0, 3, 2), [][]int{{0, 1, 2, 3}}},
		{"two pairs", below(0, 1, 0, 4), [][]int{{0, 1, 2, 3}, {2, 3, 0, 1}}},
		{"a square", below(2, 0, 11, 2), [][]int{{0, 1, 2, 3}, {3, 1, 2, 0}}},
		{"a crown", crown(), [][]int{{0, 1, 2, 3, 4, 5}, {0, 2, 1, 3, 5, 4}, {1, 0, 2, 4, 3, 5}, {1, 2, 0, 4, 5, 3}, {2, 0, 1, 5, 3, 4}, {2, 1, 0, 5, 4, 3}}},
	} {
		if got := movesOf(t, c.o); !slices.EqualFunc(got, c.want, slices.Equal) {
			t.Errorf("%s: Moves(%v) = %v, want %v", c.name, c.o, got, c.want)
		}
	}
	if got := movesOf(t, below(0, 0, 0, 0, 0, 0)); !slices.EqualFunc(got, samples.Lists(6), slices.Equal) {
		t.Errorf("six apart have %d moves, or not as lists are compared", len(got))
	}
}

func TestBB1MovesByTheirWords(t *testing.T) {
	for _, o := range tried() {
		var want [][]int
		for _, list := range samples.Lists(o.N) {
			if isSame(byList(o, list), o) {
				want = append(want, list)
			}
		}
		if got := movesOf(t, o); !slices.EqualFunc(got, want, slices.Equal) {
			t.Fatalf("Moves(%v) = %v, want %v", o, got, want)
		}
	}
}

func TestBB2(t *testing.T) {
	for n, want := range [][]api.Order{
		{below()},
		{below(0)},
		{below(0, 0), below(0, 1)},
		{below(0, 0, 0), below(0, 0, 1), below(0, 0, 3), below(0, 1, 1), below(0, 1, 3)},
		{
			below(0, 0, 0, 0), below(0, 0, 0, 1), below(0, 0, 0, 3), below(0, 0, 0, 7),
			below(0, 0, 1, 1), below(0, 0, 1, 2), below(0, 0, 1, 3), below(0, 0, 1, 5), below(0, 0, 1, 7),
			below(0, 0, 3, 3), below(0, 0, 3, 7),
			below(0, 1, 1, 1), below(0, 1, 1, 3), below(0, 1, 1, 7), below(0, 1, 3, 3), below(0, 1, 3, 7),
		},
	} {
		if got := allOf(t, n); !slices.EqualFunc(got, want, isSame) {
			t.Errorf("All(%d) = %v, want %v", n, got, want)
		}
	}
}

func TestBB2ByItsWords(t *testing.T) {
	for n := range 6 {
		var want []api.Order
		// Each order is a natural one, numbered anew, so it has its form.
		for _, o := range samples.NaturalOrders(n) {
			form, _ := plainForm(o)
			if !slices.ContainsFunc(want, func(other api.Order) bool { return isSame(other, form) }) {
				want = append(want, form)
			}
		}
		slices.SortFunc(want, func(a, b api.Order) int { return slices.Compare(a.Below, b.Below) })
		if got := allOf(t, n); !slices.EqualFunc(got, want, isSame) {
			t.Errorf("All(%d) = %v, want %v", n, got, want)
		}
	}
}

func TestBB2TooMany(t *testing.T) {
	for _, n := range []int{-1, 6, 7, 10, 11, 1000, math.MinInt, math.MaxInt} {
		if got, err := All(n); err != api.ErrMany || got != nil {
			t.Errorf("All(%d) = %v, error %d", n, got, err)
		}
	}
}

// factorial of n.
func factorial(n int) int {
	product := 1
	for i := range n {
		product *= i + 1
	}
	return product
}

func TestBB3HowManyThereAre(t *testing.T) {
	orders := []int{1, 1, 3, 19, 219, 4231}
	for n, want := range []int{1, 1, 2, 5, 16, 63} {
		forms := allOf(t, n)
		count := 0
		for _, form := range forms {
			moves := len(movesOf(t, form))
			if factorial(n)%moves != 0 {
				t.Errorf("%v has %d moves", form, moves)
			}
			count += factorial(n) / moves
		}
		if len(forms) != want || count != orders[n] {
			t.Errorf("%d points: %d forms, want %d; %d orders, want %d", n, len(forms), want, count, orders[n])
		}
	}
}

func TestBB3HowManyOfSixPoints(t *testing.T) {
	// More than All tells, but well known, too.
	met := map[[6]int]int{}
	for _, o := range samples.NaturalOrders(6) {
		form, _ := formed(t, o)
		met[[6]int(form.Below)]++
	}
	count := 0
	for sets := range met {
		count += 720 / len(movesOf(t, below(sets[:]...)))
	}
	if len(met) != 318 || count != 130023 {
		t.Errorf("%d forms of %d orders of six points", len(met), count)
	}
}

func TestBB3FormsAreTheirOwnForms(t *testing.T) {
	for n := range 6 {
		forms := allOf(t, n)
		for i, a := range forms {
			own, list := formed(t, a)
			if !isSame(own, a) || !slices.IsSorted(list) {
				t.Fatalf("%v has the form %v, by %v", a, own, list)
			}
			for k, b := range forms {
				if areAlike(t, a, b) != (i == k) {
					t.Fatalf("Alike(%v, %v) = %v", a, b, i != k)
				}
			}
		}
	}
}

func TestBB3RenumberedTheFormIsTheSame(t *testing.T) {
	for n := range 6 {
		for _, o := range allOf(t, n) {
			for _, list := range samples.Lists(n) {
				other := byList(o, list)
				form, by := formed(t, other)
				if !isSame(form, o) || !isSame(byList(other, by), o) || !areAlike(t, o, other) {
					t.Fatalf("%v renumbered by %v has the form %v, by %v", o, list, form, by)
				}
			}
		}
	}
	draw := new(samples.Draw)
	for _, o := range tried() {
		form, _ := formed(t, o)
		other := samples.Renumbered(o, draw)
		if again, by := formed(t, other); !isSame(again, form) || !isSame(byList(other, by), form) || !areAlike(t, o, other) {
			t.Fatalf("%v has the form %v, renumbered %v", o, form, again)
		}
	}
}

func TestBB3MovesAreAGroup(t *testing.T) {
	for _, o := range append(tried(), crown(), below(0, 1, 0, 4, 0, 16), below(0, 0, 0, 7, 7, 7)) {
		moves := movesOf(t, o)
		if len(moves) > 100 {
			continue
		}
		isMove := func(list []int) bool {
			return slices.ContainsFunc(moves, func(move []int) bool { return slices.Equal(move, list) })
		}
		// The first of all lists leaves each point where it is.
		if !slices.Equal(moves[0], samples.Lists(o.N)[0]) {
			t.Fatalf("Moves(%v) = %v", o, moves)
		}
		for _, one := range moves {
			back := make([]int, o.N)
			for place, point := range one {
				back[point] = place
			}
			if !isMove(back) {
				t.Fatalf("Moves(%v) = %v has %v, but not the way back", o, moves, one)
			}
			for _, other := range moves {
				if !isMove(samples.Renamed(one, other)) {
					t.Fatalf("Moves(%v) = %v has %v and %v, but not both, one behind the other", o, moves, one, other)
				}
			}
		}
	}
}

func TestBB3AlikeHaveAsManyMoves(t *testing.T) {
	for _, o := range tried() {
		form, _ := formed(t, o)
		if got, want := len(movesOf(t, o)), len(movesOf(t, form)); got != want {
			t.Fatalf("%v has %d moves, its form %v has %d", o, got, form, want)
		}
	}
}

func TestTheWholeIsToldOfTheForm(t *testing.T) {
	for _, o := range tried() {
		form, list := formed(t, o)
		rows, _ := extend.Count(o)
		ideals, _ := order.Ideals(o)
		chains, _ := level.Chains(o)
		more, _ := chain.ByChains(o)
		formRows, _ := extend.Count(form)
		formIdeals, _ := order.Ideals(form)
		formChains, _ := level.Chains(form)
		formMore, _ := chain.ByChains(form)
		if rows != formRows || len(ideals) != len(formIdeals) || !slices.Equal(chains, formChains) || !slices.Equal(more, formMore) {
			t.Fatalf("%v and its form %v tell something else", o, form)
		}
		// No point of a form is below one ahead of it, so the list is a row.
		if _, err := extend.Rank(o, list); err != api.OK {
			t.Fatalf("Form(%v) = %v by %v, which is no row", o, form, list)
		}
	}
}

func TestTheWholeTurnedOver(t *testing.T) {
	own, other := 0, 0
	for n := range 6 {
		forms := allOf(t, n)
		for _, a := range forms {
			dual, _ := order.Dual(a)
			form, _ := formed(t, dual)
			back, _ := order.Dual(form)
			if !slices.ContainsFunc(forms, func(b api.Order) bool { return isSame(b, form) }) || !areAlike(t, back, a) {
				t.Fatalf("%v turned over has the form %v", a, form)
			}
			if !slices.EqualFunc(movesOf(t, a), movesOf(t, dual), slices.Equal) {
				t.Fatalf("%v turned over has other moves", a)
			}
			if is := isSame(form, a); is != areAlike(t, a, dual) {
				t.Fatalf("Alike(%v, %v) = %v", a, dual, !is)
			} else if is {
				own++
			} else {
				other++
			}
		}
	}
	// What is not as it was has a form that it goes to, and that goes to it.
	if own < 20 || other < 20 || other%2 != 0 {
		t.Errorf("%d are as they were when they are turned over, %d are not", own, other)
	}
}

// isRefused: all calls of one order tell the error and nothing else.
func isRefused(t *testing.T, o api.Order, want api.Errno) {
	t.Helper()
	if form, list, err := Form(o); err != want || form.N != 0 || form.Below != nil || list != nil {
		t.Errorf("Form(%v) = %v, %v, error %d, want error %d", o, form, list, err, want)
	}
	if moves, err := Moves(o); err != want || moves != nil {
		t.Errorf("Moves(%v) = %v, error %d, want error %d", o, moves, err, want)
	}
	for _, right := range []api.Order{below(), below(0, 1), crown()} {
		areRefused(t, o, right, want)
		areRefused(t, right, o, want)
	}
	areRefused(t, o, o, want)
}

// areRefused: Alike tells the error and nothing else.
func areRefused(t *testing.T, a, b api.Order, want api.Errno) {
	t.Helper()
	if alike, err := Alike(a, b); err != want || alike {
		t.Errorf("Alike(%v, %v) = %v, error %d, want error %d", a, b, alike, err, want)
	}
}

func TestA1CheckIsToldFirst(t *testing.T) {
	for _, w := range samples.WrongOrders() {
		isRefused(t, w.Order, w.Err)
		// That there are too many points is told later, whichever order has them.
		areRefused(t, samples.Apart(), w.Order, w.Err)
		areRefused(t, w.Order, samples.Apart(), w.Err)
		for _, other := range samples.WrongOrders() {
			areRefused(t, w.Order, other.Order, w.Err)
		}
	}
	isRefused(t, below(0, 0, 0, 0, 0, 0, 128), api.ErrRange)
	isRefused(t, below(0, 0, 0, 0, 0, 0, 64), api.ErrState)
	isRefused(t, api.Order{N: 7}, api.ErrForm)
}

func TestBB1TooMany(t *testing.T) {
	for n := 7; n <= 10; n++ {
		isRefused(t, below(make([]int, n)...), api.ErrMany)
		isRefused(t, below(samples.Rising().Below[:n]...), api.ErrMany)
	}
	areRefused(t, samples.Rising(), below(0, 0, 0, 0, 0, 0, 0), api.ErrMany)
}

func TestP2P3OnlyReadAndTheSameEachTime(t *testing.T) {
	for _, one := range []api.Order{below(), below(0), below(0, 0), below(0, 0, 3, 2), below(0, 0, 0, 0, 0), crown(), below(62, 60, 56, 48, 32, 0)} {
		sets, room := samples.Roomy(one.Below...)
		o := below(sets...)
		before := slices.Clone(room)
		wantForm, wantList := plainForm(one)
		wantMoves := movesOf(t, one)
		for range 3 {
			form, list := formed(t, o)
			moves := movesOf(t, o)
			if !isSame(form, wantForm) || !slices.Equal(list, wantList) || !slices.EqualFunc(moves, wantMoves, slices.Equal) || !areAlike(t, o, form) || !areAlike(t, o, o) {
				t.Fatalf("%v: %v, %v, %v", o, form, list, moves)
			}
			if samples.Shared(append(moves, form.Below, list, sets)...) || !slices.Equal(before, room) {
				t.Fatalf("%v was changed, or is shared", o)
			}
			for _, own := range append(moves, form.Below, list) {
				samples.Spoil(own)
			}
		}
	}
}

func TestP2P3AllIsNewEachTime(t *testing.T) {
	for range 3 {
		for n, want := range []int{1, 1, 2, 5, 16, 63} {
			forms := allOf(t, n)
			var lists [][]int
			for _, form := range forms {
				if form.N != n || !samples.IsOrder(form.Below) {
					t.Fatalf("All(%d) = %v", n, forms)
				}
				lists = append(lists, form.Below)
			}
			if len(forms) != want || samples.Shared(lists...) {
				t.Fatalf("All(%d) = %v, or two of them share memory", n, forms)
			}
			for _, list := range lists {
				samples.Spoil(list)
			}
		}
	}
}

func TestP3AskedByManyAtOnce(t *testing.T) {
	want := allOf(t, 5)
	form, _ := plainForm(crown())
	wrong := make([]int, 30)
	var group sync.WaitGroup
	for i := range wrong {
		group.Go(func() {
			got, err := All(5)
			other, _, err2 := Form(crown())
			if err != api.OK || err2 != api.OK || !slices.EqualFunc(got, want, isSame) || !isSame(other, form) {
				wrong[i] = 1
			}
		})
	}
	group.Wait()
	if slices.Contains(wrong, 1) {
		t.Errorf("who was told something else: %v", wrong)
	}
}

func TestListsComeAsListsAreCompared(t *testing.T) {
	for n := range 7 {
		var got [][]int
		for list := range lists(n) {
			got = append(got, slices.Clone(list))
		}
		if !slices.EqualFunc(got, samples.Lists(n), slices.Equal) {
			t.Errorf("lists(%d) = %v", n, got)
		}
	}
}

func TestListsEndWhenNobodyAsksForMore(t *testing.T) {
	all := samples.Lists(4)
	for most := 1; most <= len(all); most++ {
		count := 0
		for list := range lists(4) {
			if !slices.Equal(list, all[count]) {
				t.Fatalf("list %d is %v, want %v", count, list, all[count])
			}
			count++
			if count == most {
				break
			}
		}
		if count != most {
			t.Errorf("%d lists, want %d", count, most)
		}
	}
}
