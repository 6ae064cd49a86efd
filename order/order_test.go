package order

import (
	"math"
	"reflect"
	"slices"
	"testing"

	"hasse/api"
	"hasse/samples"
)

// below tells an order by its sets.
func below(sets ...int) api.Order { return samples.Below(sets...) }

// made of pairs that are known to be right.
func made(t testing.TB, n int, pairs ...[2]int) api.Order {
	t.Helper()
	o, err := Make(n, pairs)
	if err != api.OK {
		t.Fatalf("Make(%d, %v): error %d", n, pairs, err)
	}
	return o
}

// same holds orders against each other, an empty list being like none.
func same(a, b api.Order) bool { return a.N == b.N && slices.Equal(a.Below, b.Below) }

func TestA1Check(t *testing.T) {
	for _, w := range samples.WrongOrders() {
		if got := Check(w.Order); got != w.Err {
			t.Errorf("Check(%v) = %d, want %d", w.Order, got, w.Err)
		}
	}
	for _, o := range []api.Order{{}, {Below: []int{}}, below(0), below(0, 1, 3), below(0, 0, 0, 0, 0, 0, 0, 0, 0, 511)} {
		if got := Check(o); got != api.OK {
			t.Errorf("Check(%v) = %d, want OK", o, got)
		}
	}
}

func TestA1CheckOfAllSmallLists(t *testing.T) {
	// How many orders n numbered points have is well known.
	for n, want := range []int{1, 1, 3, 19, 219} {
		count := 0
		for code := range 1 << (n * n) {
			sets := make([]int, n)
			for i := range sets {
				sets[i] = code >> (i * n) & (1<<n - 1)
			}
			got := Check(below(sets...))
			if (got == api.OK) != samples.IsOrder(sets) || got != api.OK && got != api.ErrState {
				t.Fatalf("Check(%v) = %d", sets, got)
			}
			if got == api.OK {
				count++
			}
		}
		if count != want {
			t.Errorf("%d points: %d orders, want %d", n, count, want)
		}
	}
}

func TestA1CheckIsToldFirst(t *testing.T) {
	zero := func(name string, o, got api.Order, err, want api.Errno) {
		t.Helper()
		if err != want || got.N != 0 || got.Below != nil {
			t.Errorf("%s of %v: %v, error %d, want error %d and nothing", name, o, got, err, want)
		}
	}
	good := below(0, 1)
	full := below(make([]int, 10)...)
	for _, w := range samples.WrongOrders() {
		if l, err := Covers(w.Order); err != w.Err || l != nil {
			t.Errorf("Covers(%v) = %v, error %d", w.Order, l, err)
		}
		if a, b, err := Ends(w.Order); err != w.Err || a != 0 || b != 0 {
			t.Errorf("Ends(%v) = %d, %d, error %d", w.Order, a, b, err)
		}
		if l, err := Ideals(w.Order); err != w.Err || l != nil {
			t.Errorf("Ideals(%v) = %v, error %d", w.Order, l, err)
		}
		got, err := Dual(w.Order)
		zero("Dual", w.Order, got, err, w.Err)
		for _, set := range []int{0, 1, -1, 1 << 20} {
			got, err = Part(w.Order, set)
			zero("Part", w.Order, got, err, w.Err)
		}
		for name, call := range twoOrders() {
			got, err = call(w.Order, good)
			zero(name, w.Order, got, err, w.Err)
			got, err = call(good, w.Order)
			zero(name, w.Order, got, err, w.Err)
			got, err = call(full, w.Order)
			zero(name, w.Order, got, err, w.Err)
			for _, v := range samples.WrongOrders() {
				got, err = call(w.Order, v.Order)
				zero(name, w.Order, got, err, w.Err)
			}
		}
	}
}

func twoOrders() map[string]func(a, b api.Order) (api.Order, api.Errno) {
	return map[string]func(a, b api.Order) (api.Order, api.Errno){"Beside": Beside, "Over": Over, "Times": Times}
}

func TestA2Make(t *testing.T) {
	for _, c := range []struct {
		n     int
		pairs [][2]int
		want  []int
	}{
		{0, nil, nil},
		{0, [][2]int{}, nil},
		{1, nil, []int{0}},
		{3, [][2]int{{0, 1}, {1, 2}}, []int{0, 1, 3}},
		{3, [][2]int{{1, 2}, {0, 1}}, []int{0, 1, 3}},
		{3, [][2]int{{0, 1}, {0, 1}, {0, 1}}, []int{0, 1, 0}},
		{4, [][2]int{{2, 1}, {1, 0}, {3, 0}}, []int{14, 4, 0, 0}},
		{4, [][2]int{{3, 0}, {1, 3}, {0, 2}}, []int{10, 0, 11, 2}},
		{10, [][2]int{{9, 0}}, []int{512, 0, 0, 0, 0, 0, 0, 0, 0, 0}},
	} {
		o, err := Make(c.n, c.pairs)
		if err != api.OK || o.N != c.n || !slices.Equal(o.Below, c.want) {
			t.Errorf("Make(%d, %v) = %v, error %d, want %v", c.n, c.pairs, o, err, c.want)
		}
	}
}

func TestA2MakeLongWay(t *testing.T) {
	// Ten points one above the other, the pairs told from either end.
	up, down := [][2]int{}, [][2]int{}
	for i := range 9 {
		up = append(up, [2]int{i, i + 1})
		down = append(down, [2]int{i + 1, i})
	}
	slices.Reverse(down)
	for _, pairs := range [][][2]int{up, down} {
		o := made(t, 10, pairs...)
		sizes := 0
		for _, set := range o.Below {
			for ; set > 0; set &= set - 1 {
				sizes++
			}
		}
		if sizes != 45 || Check(o) != api.OK {
			t.Errorf("Make(10, %v) = %v", pairs, o)
		}
	}
}

func TestA2MakeOfAllPairs(t *testing.T) {
	var pairs [][2]int
	for a := range 4 {
		for b := range 4 {
			pairs = append(pairs, [2]int{a, b})
		}
	}
	for choice := range 1 << len(pairs) {
		var some [][2]int
		var step [4][4]bool
		for i, p := range pairs {
			if choice>>i&1 == 1 {
				some = append(some, p)
				step[p[0]][p[1]] = true
			}
		}
		want, right := walked(step)
		o, err := Make(4, some)
		if right && (err != api.OK || !same(o, want)) || !right && (err != api.ErrState || !same(o, api.Order{})) {
			t.Fatalf("Make(4, %v) = %v, error %d, want %v", some, o, err, want)
		}
	}
}

// walked goes from each point as far as it gets, and tells whether none comes back to where it began.
func walked(step [4][4]bool) (api.Order, bool) {
	sets := make([]int, 4)
	for a := range 4 {
		var walk func(p int)
		walk = func(p int) {
			for b := range 4 {
				if step[p][b] && sets[b]>>a&1 == 0 {
					sets[b] |= 1 << a
					walk(b)
				}
			}
		}
		walk(a)
	}
	for a, set := range sets {
		if set>>a&1 == 1 {
			return api.Order{}, false
		}
	}
	return below(sets...), true
}

func TestA2MakeWrong(t *testing.T) {
	for _, c := range []struct {
		n     int
		pairs [][2]int
		want  api.Errno
	}{
		{-1, nil, api.ErrMany},
		{11, nil, api.ErrMany},
		{math.MinInt, nil, api.ErrMany},
		{math.MaxInt, [][2]int{{-1, 0}}, api.ErrMany},
		{0, [][2]int{{0, 0}}, api.ErrRange},
		{4, [][2]int{{0, 4}}, api.ErrRange},
		{4, [][2]int{{4, 0}}, api.ErrRange},
		{4, [][2]int{{-1, 0}}, api.ErrRange},
		{4, [][2]int{{0, math.MinInt}}, api.ErrRange},
		{4, [][2]int{{math.MaxInt, 0}}, api.ErrRange},
		{4, [][2]int{{0, 0}, {0, 4}}, api.ErrRange},
		{4, [][2]int{{0, 1}, {1, 0}, {-1, 0}}, api.ErrRange},
		{4, [][2]int{{0, 0}}, api.ErrState},
		{4, [][2]int{{0, 1}, {1, 0}}, api.ErrState},
		{10, [][2]int{{9, 0}, {0, 5}, {5, 9}}, api.ErrState},
	} {
		if o, err := Make(c.n, c.pairs); err != c.want || o.N != 0 || o.Below != nil {
			t.Errorf("Make(%d, %v) = %v, error %d, want error %d", c.n, c.pairs, o, err, c.want)
		}
	}
}

func TestA2Covers(t *testing.T) {
	for _, c := range []struct {
		o    api.Order
		want [][2]int
	}{
		{api.Order{}, nil},
		{below(0, 0, 0), nil},
		{below(0, 1, 3), [][2]int{{0, 1}, {1, 2}}},
		{below(6, 4, 0), [][2]int{{1, 0}, {2, 1}}},
		{below(8, 8, 11, 0), [][2]int{{0, 2}, {1, 2}, {3, 0}, {3, 1}}},
		{below(0, 0, 0, 6, 5, 3), [][2]int{{0, 4}, {0, 5}, {1, 3}, {1, 5}, {2, 3}, {2, 4}}},
	} {
		if got, err := Covers(c.o); err != api.OK || !slices.Equal(got, c.want) {
			t.Errorf("Covers(%v) = %v, error %d, want %v", c.o, got, err, c.want)
		}
	}
}

func TestA2CoversOfAllSmallOrders(t *testing.T) {
	for _, o := range samples.SmallOrders() {
		is := func(a, b int) bool { return o.Below[b]>>a&1 == 1 }
		var want [][2]int
		for a := range o.N {
			for b := range o.N {
				between := false
				for c := range o.N {
					between = between || is(a, c) && is(c, b)
				}
				if is(a, b) && !between {
					want = append(want, [2]int{a, b})
				}
			}
		}
		if got, err := Covers(o); err != api.OK || !slices.Equal(got, want) {
			t.Fatalf("Covers(%v) = %v, error %d, want %v", o, got, err, want)
		}
	}
}

func TestA2Ends(t *testing.T) {
	for _, c := range []struct {
		o             api.Order
		least, utmost int
	}{
		{api.Order{}, 0, 0},
		{below(0), 1, 1},
		{below(0, 0), 3, 3},
		{below(0, 1), 1, 2},
		{below(8, 8, 11, 0), 8, 4},
		{below(0, 0, 3, 7, 7, 23, 2), 3, 104},
		{below(make([]int, 10)...), 1023, 1023},
	} {
		if a, b, err := Ends(c.o); err != api.OK || a != c.least || b != c.utmost {
			t.Errorf("Ends(%v) = %d, %d, error %d, want %d, %d", c.o, a, b, err, c.least, c.utmost)
		}
	}
}

func TestA3Dual(t *testing.T) {
	for _, o := range samples.SmallOrders() {
		d, err := Dual(o)
		if err != api.OK || d.N != o.N || Check(d) != api.OK {
			t.Fatalf("Dual(%v) = %v, error %d", o, d, err)
		}
		for a := range o.N {
			for b := range o.N {
				if o.Below[a]>>b&1 != d.Below[b]>>a&1 {
					t.Fatalf("Dual(%v) = %v: %d and %d", o, d, a, b)
				}
			}
		}
	}
}

func TestA3Part(t *testing.T) {
	o := below(32, 33, 33, 39, 47, 0)
	for _, c := range []struct {
		set  int
		want []int
	}{
		{0, nil},
		{1, []int{0}},
		{6, []int{0, 0}},
		{10, []int{0, 1}},
		{33, []int{2, 0}},
		{0b111000, []int{4, 5, 0}},
		{63, o.Below},
	} {
		p, err := Part(o, c.set)
		if err != api.OK || p.N != len(c.want) || !slices.Equal(p.Below, c.want) {
			t.Errorf("Part(%v, %d) = %v, error %d, want %v", o, c.set, p, err, c.want)
		}
	}
	for _, set := range []int{64, 65, 1 << 10, -1, math.MinInt, math.MaxInt} {
		if p, err := Part(o, set); err != api.ErrRange || p.N != 0 || p.Below != nil {
			t.Errorf("Part(%v, %d) = %v, error %d, want ErrRange", o, set, p, err)
		}
	}
	if p, err := Part(api.Order{}, 1); err != api.ErrRange || p.Below != nil {
		t.Errorf("Part of no points: %v, error %d", p, err)
	}
}

func TestA3TwoOrders(t *testing.T) {
	var orders []api.Order
	for n := range 4 {
		orders = append(orders, samples.Orders(n)...)
	}
	for _, a := range orders {
		for _, b := range orders {
			holds(t, "Beside", Beside, a, b, a.N+b.N, func(i, k int) bool { return beside(a, b, i, k) })
			holds(t, "Over", Over, a, b, a.N+b.N, func(i, k int) bool { return beside(a, b, i, k) || i < a.N && k >= a.N })
			holds(t, "Times", Times, a, b, a.N*b.N, func(i, k int) bool { return times(a, b, i, k) })
		}
	}
}

func beside(a, b api.Order, i, k int) bool {
	if i < a.N && k < a.N {
		return a.Below[k]>>i&1 == 1
	}
	return i >= a.N && k >= a.N && b.Below[k-a.N]>>(i-a.N)&1 == 1
}

func times(a, b api.Order, i, k int) bool {
	x, y, u, v := i/b.N, i%b.N, k/b.N, k%b.N
	return i != k && (x == u || a.Below[u]>>x&1 == 1) && (y == v || b.Below[v]>>y&1 == 1)
}

// holds asks of a call's answer who is below whom.
func holds(t *testing.T, name string, call func(a, b api.Order) (api.Order, api.Errno), a, b api.Order, n int, is func(i, k int) bool) {
	t.Helper()
	o, err := call(a, b)
	if err != api.OK || o.N != n || Check(o) != api.OK {
		t.Fatalf("%s(%v, %v) = %v, error %d", name, a, b, o, err)
	}
	for i := range n {
		for k := range n {
			if (o.Below[k]>>i&1 == 1) != is(i, k) {
				t.Fatalf("%s(%v, %v) = %v: %d and %d", name, a, b, o, i, k)
			}
		}
	}
}

func TestA3TooMany(t *testing.T) {
	apart := func(n int) api.Order { return below(make([]int, n)...) }
	for _, c := range []struct {
		a, b       int
		sum, times api.Errno
	}{
		{0, 10, api.OK, api.OK},
		{10, 0, api.OK, api.OK},
		{1, 10, api.ErrMany, api.OK},
		{10, 1, api.ErrMany, api.OK},
		{5, 5, api.OK, api.ErrMany},
		{2, 5, api.OK, api.OK},
		{3, 4, api.OK, api.ErrMany},
		{4, 7, api.ErrMany, api.ErrMany},
		{10, 10, api.ErrMany, api.ErrMany},
	} {
		want := map[string]api.Errno{"Beside": c.sum, "Over": c.sum, "Times": c.times}
		for name, call := range twoOrders() {
			o, err := call(apart(c.a), apart(c.b))
			if err != want[name] || err != api.OK && (o.N != 0 || o.Below != nil) {
				t.Errorf("%s of %d and %d points: %v, error %d, want %d", name, c.a, c.b, o, err, want[name])
			}
		}
	}
}

func TestA4Ideals(t *testing.T) {
	for _, c := range []struct {
		o    api.Order
		want []int
	}{
		{api.Order{}, []int{0}},
		{below(0), []int{0, 1}},
		{below(0, 0), []int{0, 1, 2, 3}},
		{below(0, 1, 3), []int{0, 1, 3, 7}},
		{below(8, 8, 11, 0), []int{0, 8, 9, 10, 11, 15}},
	} {
		if got, err := Ideals(c.o); err != api.OK || !slices.Equal(got, c.want) {
			t.Errorf("Ideals(%v) = %v, error %d, want %v", c.o, got, err, c.want)
		}
	}
	if got, err := Ideals(below(make([]int, 10)...)); err != api.OK || len(got) != 1024 || got[1023] != 1023 {
		t.Errorf("ten points apart: %d ideals, error %d", len(got), err)
	}
}

func TestA4IdealsOfAllSmallOrders(t *testing.T) {
	for _, o := range samples.SmallOrders() {
		var want []int
		for set := range 1 << o.N {
			ideal := true
			for a := range o.N {
				for b := range o.N {
					if set>>b&1 == 1 && o.Below[b]>>a&1 == 1 && set>>a&1 == 0 {
						ideal = false
					}
				}
			}
			if ideal {
				want = append(want, set)
			}
		}
		if got, err := Ideals(o); err != api.OK || !slices.Equal(got, want) {
			t.Fatalf("Ideals(%v) = %v, error %d, want %v", o, got, err, want)
		}
	}
}

func TestA5CoversMakeTheOrder(t *testing.T) {
	for _, o := range samples.SmallOrders() {
		covers, _ := Covers(o)
		if got := made(t, o.N, covers...); !same(got, o) {
			t.Fatalf("the covers %v make %v, not %v", covers, got, o)
		}
		for i := range covers {
			fewer := slices.Delete(slices.Clone(covers), i, i+1)
			if got := made(t, o.N, fewer...); same(got, o) {
				t.Fatalf("%v is made without %v, too", o, covers[i])
			}
		}
	}
}

func TestA5DualOfDual(t *testing.T) {
	for _, o := range samples.SmallOrders() {
		d, _ := Dual(o)
		if got, err := Dual(d); err != api.OK || !same(got, o) {
			t.Fatalf("the dual of the dual of %v is %v, error %d", o, got, err)
		}
		ideals, _ := Ideals(o)
		var want []int
		for _, set := range ideals {
			want = append(want, 1<<o.N-1-set)
		}
		slices.Sort(want)
		if got, err := Ideals(d); err != api.OK || !slices.Equal(got, want) {
			t.Fatalf("the ideals of the dual of %v: %v, error %d, want %v", o, got, err, want)
		}
	}
}

func TestA5IdealsSideBySide(t *testing.T) {
	orders := append(samples.Orders(2), samples.Orders(3)...)
	for _, a := range orders {
		for _, b := range orders {
			ofA, _ := Ideals(a)
			ofB, _ := Ideals(b)
			var want []int
			for _, y := range ofB {
				for _, x := range ofA {
					want = append(want, y<<a.N|x)
				}
			}
			both, _ := Beside(a, b)
			if got, err := Ideals(both); err != api.OK || !slices.Equal(got, want) {
				t.Fatalf("the ideals of %v beside %v: %v, error %d, want %v", a, b, got, err, want)
			}
		}
	}
}

// roomy is an order whose list has spare room, with marks in it that must stay.
func roomy(sets ...int) (api.Order, []int) {
	list, room := samples.Roomy(sets...)
	return below(list...), room
}

func TestP2WhatIsHandedInIsOnlyRead(t *testing.T) {
	a, roomA := roomy(0, 1, 3)
	b, roomB := roomy(0, 1)
	wantA, wantB := slices.Clone(roomA), slices.Clone(roomB)
	pairs := [][2]int{{0, 1}, {1, 2}, {7, 7}}
	answers := []api.Order{}
	keep := func(o api.Order, err api.Errno) {
		t.Helper()
		if err != api.OK {
			t.Fatalf("error %d", err)
		}
		answers = append(answers, o)
	}
	keep(Dual(a))
	keep(Part(a, 7))
	keep(Beside(a, b))
	keep(Beside(a, api.Order{}))
	keep(Beside(api.Order{}, a))
	keep(Over(a, b))
	keep(Over(a, api.Order{}))
	keep(Times(a, b))
	keep(Times(a, below(0)))
	keep(Make(3, pairs[:2]))
	Covers(a)
	Ends(a)
	Ideals(a)
	for _, o := range answers {
		samples.Spoil(o.Below)
	}
	if !slices.Equal(roomA, wantA) || !slices.Equal(roomB, wantB) || !slices.Equal(pairs, [][2]int{{0, 1}, {1, 2}, {7, 7}}) {
		t.Errorf("what was handed in was changed: %v %v %v", roomA, roomB, pairs)
	}
}

func TestP2NothingIsKept(t *testing.T) {
	a, _ := roomy(0, 1, 3)
	same1, _ := Part(a, 7)
	beside1, _ := Beside(a, api.Order{})
	a.Below[2] = 0
	for _, o := range []api.Order{same1, beside1} {
		if !slices.Equal(o.Below, []int{0, 1, 3}) {
			t.Errorf("a later change is seen: %v", o)
		}
	}
}

func TestP3TheSameEachTime(t *testing.T) {
	for _, o := range samples.Orders(3) {
		for range 2 {
			l, _ := Covers(o)
			s, _ := Ideals(o)
			d, _ := Dual(o)
			want := []any{slices.Clone(l), slices.Clone(s), slices.Clone(d.Below)}
			for i := range l {
				l[i] = [2]int{9, 9}
			}
			for i := range s {
				s[i] = 9
			}
			for i := range d.Below {
				d.Below[i] = 9
			}
			l, _ = Covers(o)
			s, _ = Ideals(o)
			d, _ = Dual(o)
			if got := []any{slices.Clone(l), slices.Clone(s), slices.Clone(d.Below)}; !reflect.DeepEqual(got, want) {
				t.Fatalf("of %v: %v, and then %v", o, want, got)
			}
		}
	}
}

func TestP4ManyPairs(t *testing.T) {
	pairs := make([][2]int, 1000000)
	for i := range pairs {
		pairs[i] = [2]int{i % 9, i%9 + 1}
	}
	if o := made(t, 10, pairs...); o.Below[9] != 511 {
		t.Errorf("a million pairs make %v", o)
	}
}
