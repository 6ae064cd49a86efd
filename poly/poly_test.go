package poly

import (
	"math"
	"slices"
	"testing"

	"hasse/api"
	"hasse/convex"
	"hasse/extend"
	"hasse/fix"
	"hasse/moebius"
	"hasse/order"
	"hasse/samples"
)

// named orders, and of each how many maps onto chains there are.
func named() []struct {
	name string
	o    api.Order
	onto []int
} {
	return []struct {
		name string
		o    api.Order
		onto []int
	}{
		{"no points", samples.Below(), []int{1}},
		{"one point", samples.Below(0), []int{0, 1}},
		{"two apart", samples.Below(0, 0), []int{0, 1, 2}},
		{"two in a chain", samples.Below(0, 1), []int{0, 1, 1}},
		{"two in a chain, the other way round", samples.Below(2, 0), []int{0, 1, 1}},
		{"three in a chain", samples.Below(0, 1, 3), []int{0, 1, 2, 1}},
		{"three apart", samples.Below(0, 0, 0), []int{0, 1, 6, 6}},
		{"a fork", samples.Below(0, 1, 1), []int{0, 1, 3, 2}},
		{"a fork, turned over", samples.Below(6, 0, 0), []int{0, 1, 3, 2}},
		{"a point beside two in a chain", samples.Below(0, 1, 0), []int{0, 1, 4, 3}},
		{"a square", samples.Below(0, 1, 1, 7), []int{0, 1, 4, 5, 2}},
		{"two chains of two", samples.Below(0, 1, 0, 4), []int{0, 1, 7, 12, 6}},
		{"an N", samples.Below(0, 0, 3, 2), []int{0, 1, 6, 10, 5}},
		{"ten in a chain", samples.Rising(), []int{0, 1, 9, 36, 84, 126, 126, 84, 36, 9, 1}},
		{"ten in a chain, turned over", samples.Falling(), []int{0, 1, 9, 36, 84, 126, 126, 84, 36, 9, 1}},
		{"ten apart", samples.Apart(), []int{0, 1, 1022, 55980, 818520, 5103000, 16435440, 29635200, 30240000, 16329600, 3628800}},
	}
}

// tried orders of all sizes.
func tried() []api.Order {
	list := slices.Concat(samples.SmallOrders(), samples.NaturalOrders(5), samples.GreatOrders(60))
	for _, c := range named() {
		list = append(list, c.o)
	}
	return append(list, samples.Storeys())
}

// chainOf n points.
func chainOf(n int) api.Order {
	o := samples.Below(make([]int, n)...)
	for i := range n {
		o.Below[i] = 1<<i - 1
	}
	return o
}

// keeps: what is below another point goes not above what that one goes to, and if it must go below, not there, either.
func keeps(o api.Order, f []int, strict bool) bool {
	for lower := range o.N {
		for upper := range o.N {
			if samples.IsBelow(o, lower, upper) && (f[lower] > f[upper] || strict && f[lower] == f[upper]) {
				return false
			}
		}
	}
	return true
}

// plainMaps to a chain of k points, each looked at: how many there are, and how many of them come to each of these.
func plainMaps(o api.Order, k int, strict bool) (all, onto int) {
	for _, f := range samples.Maps(o.N, k) {
		if !keeps(o, f, strict) {
			continue
		}
		all++
		comes := 0
		for _, point := range f {
			comes |= 1 << point
		}
		if comes == 1<<k-1 {
			onto++
		}
	}
	return all, onto
}

// plainBinomial by the words of U1.
func plainBinomial(n, k int) int {
	over, under := 1, 1
	for i := range k {
		over *= n - i
		under *= i + 1
	}
	return over / under
}

// plainChains: how many sets of k points there are of which each two know of one another; each set is looked at.
func plainChains(o api.Order) []int {
	counts := make([]int, o.N+1)
	for set := range 1 << o.N {
		size, chain := 0, true
		for x := range o.N {
			if set>>x&1 == 0 {
				continue
			}
			size++
			for y := range x {
				chain = chain && (set>>y&1 == 0 || samples.IsBelow(o, x, y) || samples.IsBelow(o, y, x))
			}
		}
		if chain {
			counts[size]++
		}
	}
	return counts
}

// number that a call answers of what is right.
func number(t *testing.T, call func(api.Order, int) (int, api.Errno), o api.Order, n int) int {
	t.Helper()
	got, err := call(o, n)
	if err != api.OK {
		t.Fatalf("%v, %d: error %d", o, n, err)
	}
	return got
}

// ontoOf a right order.
func ontoOf(t *testing.T, o api.Order) []int {
	t.Helper()
	got, err := Onto(o)
	if err != api.OK || len(got) != o.N+1 {
		t.Fatalf("Onto(%v) = %v, error %d", o, got, err)
	}
	return got
}

func TestU1Onto(t *testing.T) {
	for _, c := range named() {
		if got, err := Onto(c.o); err != api.OK || !slices.Equal(got, c.onto) {
			t.Errorf("%s: %v, error %d, want %v", c.name, got, err, c.onto)
		}
	}
}

func TestU1OntoByItsWords(t *testing.T) {
	count := 0
	for _, o := range slices.Concat(samples.SmallOrders(), samples.NaturalOrders(5)[:200]) {
		got := ontoOf(t, o)
		for k := range o.N + 1 {
			if _, want := plainMaps(o, k, false); got[k] != want {
				t.Fatalf("Onto(%v) = %v, but to %d there are %d", o, got, k, want)
			}
		}
		count++
	}
	if count < 400 {
		t.Errorf("only %d orders were tried", count)
	}
}

func TestU1Value(t *testing.T) {
	square, apart := samples.Below(0, 1, 1, 7), samples.Apart()
	for _, c := range []struct {
		name    string
		o       api.Order
		n, want int
	}{
		{"no points", samples.Below(), 0, 1},
		{"no points, far below", samples.Below(), -20, 1},
		{"no points, far above", samples.Below(), 20, 1},
		{"one point, to none", samples.Below(0), 0, 0},
		{"one point, as far above as may be", samples.Below(0), 20, 20},
		{"one point, as far below as may be", samples.Below(0), -20, -20},
		{"a square to two", square, 2, 6},
		{"a square to five", square, 5, 105},
		{"a square to three below nothing", square, -3, 1},
		{"a square to two below nothing", square, -2, 0},
		{"ten apart, to twenty", apart, 20, 10240000000000},
		{"ten apart, to twenty below nothing", apart, -20, 10240000000000},
		{"ten apart, to one below nothing", apart, -1, 1},
		{"ten in a chain, to twenty", samples.Rising(), 20, 20030010},
		{"ten in a chain, to twenty below nothing", samples.Rising(), -20, 184756},
		{"ten in a chain, to ten below nothing", samples.Rising(), -10, 1},
		{"ten in a chain, to nine below nothing", samples.Rising(), -9, 0},
		{"nine in a chain, to nine below nothing", chainOf(9), -9, -1},
	} {
		if got, err := Value(c.o, c.n); err != api.OK || got != c.want {
			t.Errorf("%s: %d, error %d, want %d", c.name, got, err, c.want)
		}
	}
}

func TestU1ValueByItsWords(t *testing.T) {
	for _, o := range tried() {
		onto := ontoOf(t, o)
		for n := -api.MaxSteps; n <= api.MaxSteps; n += 1 + o.N/5 {
			want := 0
			for k, count := range onto {
				want += count * plainBinomial(n, k)
			}
			if got := number(t, Value, o, n); got != want {
				t.Fatalf("Value(%v, %d) = %d, want %d", o, n, got, want)
			}
		}
	}
}

func TestU2Strict(t *testing.T) {
	for _, c := range []struct {
		name    string
		o       api.Order
		n, want int
	}{
		{"no points, to none", samples.Below(), 0, 1},
		{"no points, to twenty", samples.Below(), 20, 1},
		{"one point, to none", samples.Below(0), 0, 0},
		{"one point, to one", samples.Below(0), 1, 1},
		{"two in a chain, to one", samples.Below(0, 1), 1, 0},
		{"two in a chain, to two", samples.Below(0, 1), 2, 1},
		{"two in a chain, to twenty", samples.Below(0, 1), 20, 190},
		{"two apart, to one", samples.Below(0, 0), 1, 1},
		{"a square, to two", samples.Below(0, 1, 1, 7), 2, 0},
		{"a square, to three", samples.Below(0, 1, 1, 7), 3, 1},
		{"ten in a chain, to nine", samples.Rising(), 9, 0},
		{"ten in a chain, to ten", samples.Falling(), 10, 1},
		{"ten in a chain, to twenty", samples.Falling(), 20, 184756},
		{"ten apart, to twenty", samples.Apart(), 20, 10240000000000},
		{"storeys, to four", samples.Storeys(), 4, 0},
		{"storeys, to five", samples.Storeys(), 5, 1},
		{"storeys, to six", samples.Storeys(), 6, 16},
	} {
		if got, err := Strict(c.o, c.n); err != api.OK || got != c.want {
			t.Errorf("%s: %d, error %d, want %d", c.name, got, err, c.want)
		}
	}
}

func TestU2U4ByTheirWords(t *testing.T) {
	count := 0
	for _, o := range tried() {
		for k := range 6 {
			if math.Pow(float64(k), float64(o.N)) > 4000 {
				continue
			}
			if want, _ := plainMaps(o, k, true); number(t, Strict, o, k) != want {
				t.Fatalf("Strict(%v, %d) = %d, want %d", o, k, number(t, Strict, o, k), want)
			}
			if want, _ := plainMaps(o, k, false); number(t, Value, o, k) != want {
				t.Fatalf("Value(%v, %d) = %d, want %d", o, k, number(t, Value, o, k), want)
			}
			count++
		}
	}
	if count < 3000 {
		t.Errorf("only %d were tried", count)
	}
}

func TestU3Zeta(t *testing.T) {
	for _, c := range []struct {
		name    string
		o       api.Order
		n, want int
	}{
		{"no points", samples.Below(), 5, 0},
		{"no points, far below", samples.Below(), -20, 0},
		{"one point", samples.Below(0), 5, 1},
		{"one point, far below", samples.Below(0), -20, 1},
		{"two apart", samples.Below(0, 0), 20, 2},
		{"two in a chain", samples.Below(0, 1), 20, 20},
		{"two in a chain, as far below as may be", samples.Below(0, 1), -20, -20},
		{"two in a chain, at nothing", samples.Below(0, 1), 0, 0},
		{"a square", samples.Below(0, 1, 1, 7), 5, 25},
		{"a square, below nothing", samples.Below(0, 1, 1, 7), -3, 9},
		{"ten in a chain, at two", samples.Rising(), 2, 10},
		{"ten in a chain, at one", samples.Rising(), 1, 1},
		{"ten in a chain, as far above as may be", samples.Rising(), 20, 6906900},
		{"ten in a chain, as far below as may be", samples.Rising(), -20, -167960},
		{"ten apart, as far below as may be", samples.Apart(), -20, 10},
	} {
		if got, err := Zeta(c.o, c.n); err != api.OK || got != c.want {
			t.Errorf("%s: %d, error %d, want %d", c.name, got, err, c.want)
		}
	}
}

func TestU3ByItsWords(t *testing.T) {
	for _, o := range tried() {
		chains := plainChains(o)
		for n := -api.MaxSteps; n <= api.MaxSteps; n++ {
			want := 0
			for k := 1; k <= o.N; k++ {
				want += chains[k] * plainBinomial(n-2, k-1)
			}
			if got := number(t, Zeta, o, n); got != want {
				t.Fatalf("Zeta(%v, %d) = %d, want %d", o, n, got, want)
			}
		}
	}
}

func TestU1U2U3NumbersThatMayNotBe(t *testing.T) {
	for _, o := range []api.Order{samples.Below(), samples.Below(0), samples.Storeys(), samples.Apart()} {
		for _, n := range []int{21, 22, -21, -22, 1 << 32, -1 << 32, math.MaxInt, math.MinInt} {
			for i, call := range []func(api.Order, int) (int, api.Errno){Value, Strict, Zeta} {
				if got, err := call(o, n); err != api.ErrRange || got != 0 {
					t.Errorf("call %d of %v, %d: %d, error %d", i, o, n, got, err)
				}
			}
		}
		for _, n := range []int{-1, -2, -20} {
			if got, err := Strict(o, n); err != api.ErrRange || got != 0 {
				t.Errorf("Strict(%v, %d) = %d, error %d", o, n, got, err)
			}
		}
		for n := -20; n <= 20; n++ {
			number(t, Value, o, n)
			number(t, Zeta, o, n)
			if n >= 0 {
				number(t, Strict, o, n)
			}
		}
	}
}

func TestU4Stanley(t *testing.T) {
	for _, o := range tried() {
		sign := 1 - 2*(o.N%2)
		for n := 0; n <= api.MaxSteps; n += 1 + o.N/4 {
			if value, strict := number(t, Value, o, -n), number(t, Strict, o, n); value*sign != strict {
				t.Fatalf("%v, %d: Value is %d, Strict %d", o, n, value, strict)
			}
		}
	}
}

func TestU4OneOntoAllForEachRow(t *testing.T) {
	for _, o := range tried() {
		rows, err := extend.Count(o)
		if got := ontoOf(t, o)[o.N]; err != api.OK || got != rows {
			t.Fatalf("%v: %d onto all, but %d rows, error %d", o, got, rows, err)
		}
	}
}

// falls: how often a row goes from a point to one that stands ahead of it in the first row.
func falls(place []int, row []int) int {
	count := 0
	for i := range row {
		if i > 0 && place[row[i-1]] > place[row[i]] {
			count++
		}
	}
	return count
}

func TestU4RowsTellAllMaps(t *testing.T) {
	// Each map goes along with one row: it may stay where the row goes up, and must go on where the row falls. If it must go below, it is the other way round.
	count := 0
	for _, o := range tried() {
		rows, err := extend.Count(o)
		if err != api.OK || rows > 400 || o.N == 0 {
			continue
		}
		place := make([]int, o.N)
		first, _ := extend.Nth(o, 0)
		for i, point := range first {
			place[point] = i
		}
		for _, n := range []int{0, 1, 2, 3, 7, 20} {
			maps, strict := 0, 0
			for k := range rows {
				row, _ := extend.Nth(o, k)
				down := falls(place, row)
				if top := n + o.N - 1 - down; top > 0 {
					maps += plainBinomial(top, o.N)
				}
				if top := n + down; top > 0 {
					strict += plainBinomial(top, o.N)
				}
			}
			if got := number(t, Value, o, n); got != maps {
				t.Fatalf("Value(%v, %d) = %d, by rows it is %d", o, n, got, maps)
			}
			if got := number(t, Strict, o, n); got != strict {
				t.Fatalf("Strict(%v, %d) = %d, by rows it is %d", o, n, got, strict)
			}
		}
		count++
	}
	if count < 500 {
		t.Errorf("only %d orders were tried", count)
	}
}

// plainLists of points that rise or stay: how many there are that begin at a point or above it.
func plainLists(o api.Order, from, length int) int {
	if length == 0 {
		return 1
	}
	count := 0
	for point := range o.N {
		if from < 0 || from == point || samples.IsBelow(o, from, point) {
			count += plainLists(o, point, length-1)
		}
	}
	return count
}

func TestU4ZetaCountsLists(t *testing.T) {
	for _, o := range tried() {
		for n := 2; n <= 5; n++ {
			if got, want := number(t, Zeta, o, n), plainLists(o, -1, n-1); got != want {
				t.Fatalf("Zeta(%v, %d) = %d, want %d", o, n, got, want)
			}
		}
	}
}

func TestU4Hall(t *testing.T) {
	kinds := map[int]int{}
	draw := new(samples.Draw)
	var bounded []api.Order
	for _, inner := range tried() {
		if inner.N <= api.MaxPoints-2 {
			below := []int{0}
			for _, set := range inner.Below {
				below = append(below, set<<1|1)
			}
			below = append(below, 1<<(inner.N+1)-1)
			bounded = append(bounded, samples.Renumbered(samples.Below(below...), draw))
		}
	}
	for _, o := range append(tried(), bounded...) {
		least, greatest := -1, -1
		for point := range o.N {
			if o.Below[point] == (1<<o.N-1)&^(1<<point) {
				greatest = point
			}
			if plainLists(o, point, 1) == o.N {
				least = point
			}
		}
		if least < 0 || greatest < 0 {
			continue
		}
		mu, err := moebius.Mu(o, least, greatest)
		if got := number(t, Zeta, o, -1); err != api.OK || got != mu {
			t.Fatalf("Zeta(%v, -1) = %d, but Mu is %d, error %d", o, got, mu, err)
		}
		kinds[max(-2, min(mu, 2))]++
	}
	if len(kinds) < 5 || kinds[0] < 100 || kinds[1] < 30 || kinds[-1] < 10 {
		t.Errorf("of each kind: %v", kinds)
	}
}

func TestU4ZetaAtOneIsEulerWithTheChainOfNoPoints(t *testing.T) {
	for _, o := range tried() {
		euler, err := moebius.Euler(o)
		if got := number(t, Zeta, o, 1); err != api.OK || got != euler+1 {
			t.Fatalf("Zeta(%v, 1) = %d, Euler is %d, error %d", o, got, euler, err)
		}
	}
}

// idealsOf a right order.
func idealsOf(t *testing.T, o api.Order) []int {
	t.Helper()
	ideals, err := order.Ideals(o)
	if err != api.OK {
		t.Fatalf("Ideals(%v): error %d", o, err)
	}
	return ideals
}

func TestU4ListsOfIdealsAreMaps(t *testing.T) {
	count := 0
	for _, o := range tried() {
		ideals := idealsOf(t, o)
		if len(ideals) > api.MaxPoints {
			continue
		}
		of := samples.Below(make([]int, len(ideals))...)
		for i, upper := range ideals {
			for j, lower := range ideals {
				if i != j && lower&^upper == 0 {
					of.Below[i] |= 1 << j
				}
			}
		}
		for n := -api.MaxSteps; n <= api.MaxSteps; n++ {
			if zeta, value := number(t, Zeta, of, n), number(t, Value, o, n); zeta != value {
				t.Fatalf("%v at %d: Zeta of its ideals is %d, its Value %d", o, n, zeta, value)
			}
		}
		count++
	}
	if count < 100 {
		t.Errorf("only %d orders were tried", count)
	}
}

func TestTheWholeIdealsAndRowsAreToldAlike(t *testing.T) {
	for _, o := range tried() {
		ideals := idealsOf(t, o)
		if got := number(t, Value, o, 2); got != len(ideals) {
			t.Fatalf("%v: %d maps to two points, %d ideals", o, got, len(ideals))
		}
		if o.N <= api.MaxMaps {
			for k := range 5 {
				if maps, err := fix.Count(o, chainOf(k)); err != api.OK || maps != number(t, Value, o, k) {
					t.Fatalf("%v: to %d there are %d maps, error %d, Value is %d", o, k, maps, err, number(t, Value, o, k))
				}
			}
		}
		words, err := convex.Words(api.Family{N: o.N, Sets: ideals})
		if got := ontoOf(t, o)[o.N]; err != api.OK || got != words {
			t.Fatalf("%v: %d onto all, but %d words, error %d", o, got, words, err)
		}
	}
}

func TestTheWholeHoweverNumberedAndTurnedOver(t *testing.T) {
	draw := new(samples.Draw)
	for _, o := range tried() {
		dual, err := order.Dual(o)
		if err != api.OK {
			t.Fatalf("Dual(%v): error %d", o, err)
		}
		for _, other := range []api.Order{dual, samples.Renumbered(o, draw)} {
			if !slices.Equal(ontoOf(t, other), ontoOf(t, o)) {
				t.Fatalf("Onto of %v and %v: %v and %v", o, other, ontoOf(t, o), ontoOf(t, other))
			}
			for _, n := range []int{0, 3, 20} {
				if number(t, Strict, other, n) != number(t, Strict, o, n) || number(t, Zeta, other, -n) != number(t, Zeta, o, -n) {
					t.Fatalf("%v and %v differ at %d", o, other, n)
				}
			}
		}
	}
}

func TestTwoOrdersTogether(t *testing.T) {
	parts := []api.Order{samples.Below(), samples.Below(0), samples.Below(0, 0), samples.Below(2, 0), samples.Below(0, 1, 1), samples.Below(0, 0, 3, 2), samples.Below(0, 1, 3, 7, 1)}
	for _, a := range parts {
		for _, b := range parts {
			beside, err := order.Beside(a, b)
			if err != api.OK {
				t.Fatalf("Beside(%v, %v): error %d", a, b, err)
			}
			times, err := order.Times(a, b)
			for n := -4; n <= 4; n++ {
				if got, want := number(t, Value, beside, n), number(t, Value, a, n)*number(t, Value, b, n); got != want {
					t.Fatalf("Value(%v, %d) = %d, want %d", beside, n, got, want)
				}
				if got, want := number(t, Zeta, beside, n), number(t, Zeta, a, n)+number(t, Zeta, b, n); got != want {
					t.Fatalf("Zeta(%v, %d) = %d, want %d", beside, n, got, want)
				}
				if n >= 0 && number(t, Strict, beside, n) != number(t, Strict, a, n)*number(t, Strict, b, n) {
					t.Fatalf("Strict(%v, %d) = %d", beside, n, number(t, Strict, beside, n))
				}
				if err != api.OK {
					continue
				}
				if got, want := number(t, Zeta, times, n), number(t, Zeta, a, n)*number(t, Zeta, b, n); got != want {
					t.Fatalf("Zeta(%v, %d) = %d, want %d", times, n, got, want)
				}
			}
		}
	}
}

func TestA1CheckIsToldFirst(t *testing.T) {
	for _, w := range samples.WrongOrders() {
		if got, err := Onto(w.Order); err != w.Err || got != nil {
			t.Errorf("Onto(%v) = %v, error %d, want error %d", w.Order, got, err, w.Err)
		}
		for _, n := range []int{0, 1, -1, 20, -20, 21, -21, math.MaxInt, math.MinInt} {
			for i, call := range []func(api.Order, int) (int, api.Errno){Value, Strict, Zeta} {
				if got, err := call(w.Order, n); err != w.Err || got != 0 {
					t.Errorf("call %d of %v, %d: %d, error %d, want error %d", i, w.Order, n, got, err, w.Err)
				}
			}
		}
	}
}

func TestP2P3OnlyReadAndTheSameEachTime(t *testing.T) {
	for _, c := range named() {
		below, room := samples.Roomy(c.o.Below...)
		before := slices.Clone(room)
		o := api.Order{N: c.o.N, Below: below}
		var first []int
		for round := range 3 {
			onto := ontoOf(t, o)
			numbers := []int{number(t, Value, o, -7), number(t, Strict, o, 7), number(t, Zeta, o, 7)}
			if !slices.Equal(onto, c.onto) || round > 0 && !slices.Equal(numbers, first) {
				t.Fatalf("%s: %v and %v", c.name, onto, numbers)
			}
			if samples.Shared(onto, below) || !slices.Equal(before, room) {
				t.Fatalf("%s was changed, or is shared", c.name)
			}
			samples.Spoil(onto)
			first = numbers
		}
	}
}
