package span

import (
	"math"
	"slices"
	"testing"

	"hasse/api"
	"hasse/samples"
)

// below tells an order by its sets.
func below(sets ...int) api.Order { return samples.Below(sets...) }

// drawn stretches, as many as there may be, of lengths up to one that is told: the longer they may be, the fewer are all alike.
func drawn(draw *samples.Draw, longest int) [][2]int {
	l := make([][2]int, api.MaxPoints)
	for i := range l {
		first := draw.Next(12) - 6
		l[i] = [2]int{first, first + draw.Next(longest+1)}
	}
	return l
}

// tried orders: all of up to five points, great ones of any kind, and great ones of stretches, alike in length and not.
func tried() []api.Order {
	orders := append(samples.SmallOrders(), samples.NaturalOrders(5)...)
	orders = append(orders, samples.GreatOrders(300)...)
	orders = append(orders, samples.Apart(), samples.Rising(), samples.Falling(), samples.Storeys())
	draw := new(samples.Draw)
	for i := range 300 {
		l := drawn(draw, i%7)
		orders = append(orders, inTime(l))
		for k := range l {
			l[k][1] = l[k][0] + i%7
		}
		orders = append(orders, inTime(l))
	}
	return orders
}

// inTime: the order by the words of H1.
func inTime(l [][2]int) api.Order {
	sets := make([]int, len(l))
	for a := range l {
		for b := range l {
			if l[a][1] < l[b][0] {
				sets[b] |= 1 << a
			}
		}
	}
	return below(sets...)
}

func isNothing(o api.Order) bool { return o.N == 0 && o.Below == nil }

func TestH1Of(t *testing.T) {
	for _, c := range []struct {
		l    [][2]int
		want []int
	}{
		{nil, nil},
		{[][2]int{}, nil},
		{[][2]int{{7, 7}}, []int{0}},
		{[][2]int{{0, 1}, {2, 3}}, []int{0, 1}},
		{[][2]int{{2, 3}, {0, 1}}, []int{2, 0}},
		{[][2]int{{0, 2}, {2, 3}}, []int{0, 0}},
		{[][2]int{{5, 5}, {5, 5}, {6, 6}}, []int{0, 0, 3}},
		{[][2]int{{math.MinInt, math.MaxInt}, {math.MinInt, math.MinInt}, {math.MaxInt, math.MaxInt}}, []int{0, 0, 2}},
		{[][2]int{{math.MinInt, -1}, {0, math.MaxInt}}, []int{0, 1}},
		{make([][2]int, 10), make([]int, 10)},
		{[][2]int{{9, 9}, {8, 8}, {7, 7}, {6, 6}, {5, 5}, {4, 4}, {3, 3}, {2, 2}, {1, 1}, {0, 0}}, samples.Falling().Below},
	} {
		if got, err := Of(c.l); err != api.OK || got.N != len(c.l) || !slices.Equal(got.Below, c.want) {
			t.Errorf("Of(%v) = %v, error %d, want %v", c.l, got, err, c.want)
		}
	}
	draw := new(samples.Draw)
	for i := range 500 {
		l := drawn(draw, i%9)
		if got, err := Of(l); err != api.OK || got.N != len(l) || !slices.Equal(got.Below, inTime(l).Below) {
			t.Fatalf("Of(%v) = %v, error %d, want %v", l, got, err, inTime(l))
		}
	}
}

func TestH1Wrong(t *testing.T) {
	for _, c := range []struct {
		l    [][2]int
		want api.Errno
	}{
		{make([][2]int, 11), api.ErrMany},
		{make([][2]int, 1000), api.ErrMany},
		{slices.Repeat([][2]int{{1, 0}}, 11), api.ErrMany},
		{[][2]int{{1, 0}}, api.ErrRange},
		{[][2]int{{0, 1}, {2, 3}, {5, 4}}, api.ErrRange},
		{[][2]int{{math.MaxInt, math.MinInt}}, api.ErrRange},
		{[][2]int{{0, 0}, {-1, -2}, {0, 0}}, api.ErrRange},
	} {
		if got, err := Of(c.l); err != c.want || !isNothing(got) {
			t.Errorf("Of(%v) = %v, error %d, want error %d", c.l, got, err, c.want)
		}
	}
}

func TestH2Spans(t *testing.T) {
	for _, c := range []struct {
		o    api.Order
		want [][2]int
		is   bool
	}{
		{api.Order{}, nil, true},
		{below(0), [][2]int{{0, 0}}, true},
		{below(0, 0), [][2]int{{0, 0}, {0, 0}}, true},
		{below(2, 0), [][2]int{{1, 1}, {0, 0}}, true},
		{below(0, 0, 3, 2), [][2]int{{0, 1}, {0, 0}, {2, 2}, {1, 2}}, true},
		// A chain of three, and one beside it.
		{below(0, 1, 3, 0), [][2]int{{0, 0}, {1, 1}, {2, 2}, {0, 2}}, true},
		{below(0, 1, 0, 4), nil, false},
		{below(0, 0, 0, 6, 5, 3), nil, false},
		{samples.Apart(), make([][2]int, 10), true},
		{samples.Storeys(), [][2]int{{0, 0}, {0, 0}, {1, 1}, {1, 1}, {2, 2}, {2, 2}, {3, 3}, {3, 3}, {4, 4}, {4, 4}}, true},
	} {
		if got, is, err := Spans(c.o); err != api.OK || is != c.is || !slices.Equal(got, c.want) || !is && got != nil {
			t.Errorf("Spans(%v) = %v, %v, error %d, want %v, %v", c.o, got, is, err, c.want, c.is)
		}
	}
}

// plainSpan of a point by the words of H2.
func plainSpan(o api.Order, point int) [2]int {
	own := sizeOf(o.Below[point])
	first, notIn := map[int]int{}, map[int]int{}
	for _, set := range o.Below {
		if sizeOf(set) < own {
			first[set] = 1
		}
		if set>>point&1 == 0 {
			notIn[set] = 1
		}
	}
	return [2]int{len(first), len(notIn) - 1}
}

func sizeOf(set int) int {
	size := 0
	for ; set > 0; set /= 2 {
		size += set % 2
	}
	return size
}

func TestH2ByItsWords(t *testing.T) {
	found := 0
	for _, o := range tried() {
		got, is, err := Spans(o)
		if err != api.OK || !is && got != nil {
			t.Fatalf("Spans(%v) = %v, %v, error %d", o, got, is, err)
		}
		if !is {
			continue
		}
		found++
		if len(got) != o.N || !slices.Equal(inTime(got).Below, o.Below) {
			t.Fatalf("Spans(%v) = %v: these are %v", o, got, inTime(got))
		}
		for p, span := range got {
			if span != plainSpan(o, p) || span[0] > span[1] {
				t.Fatalf("Spans(%v) = %v: that of %d is %v", o, got, p, plainSpan(o, p))
			}
		}
	}
	if found < 700 {
		t.Errorf("only %d orders of stretches were tried", found)
	}
}

// each list of n numbers from 0 on below most.
func each(n, most int, do func(list []int)) {
	list := make([]int, n)
	var fill func(i int)
	fill = func(i int) {
		if i == n {
			do(list)
			return
		}
		for list[i] = 0; list[i] < most; list[i]++ {
			fill(i + 1)
		}
	}
	fill(0)
}

func key(o api.Order) [4]int {
	var k [4]int
	copy(k[:], o.Below)
	return k
}

func TestH2NoneWhereThereAreNone(t *testing.T) {
	// Of n stretches only the order of n first numbers and n last ones counts, so that those between n numbers are enough. How many orders there are is well known.
	for n, want := range []int{1, 1, 3, 19, 207} {
		met := map[[4]int]int{}
		var stretches [][2]int
		for last := range n {
			for first := range last + 1 {
				stretches = append(stretches, [2]int{first, last})
			}
		}
		each(n, len(stretches), func(list []int) {
			l := make([][2]int, n)
			for i, k := range list {
				l[i] = stretches[k]
			}
			met[key(inTime(l))] = 1
		})
		if len(met) != want {
			t.Errorf("%d points: %d orders of stretches, want %d", n, len(met), want)
		}
		for _, o := range samples.Orders(n) {
			if got, is, err := Spans(o); err != api.OK || is != (met[key(o)] == 1) {
				t.Errorf("Spans(%v) = %v, %v, error %d", o, got, is, err)
			}
		}
	}
}

func TestH3TwoAndThree(t *testing.T) {
	for _, c := range []struct {
		o          api.Order
		two, three []int
	}{
		{api.Order{}, nil, nil},
		{below(0), nil, nil},
		{below(0, 0, 3, 2), nil, nil},
		{below(0, 1, 0, 4), []int{0, 1, 2, 3}, nil},
		{below(2, 0, 8, 0), []int{1, 0, 3, 2}, nil},
		{below(0, 1, 3, 0), nil, []int{0, 1, 2, 3}},
		{below(0, 12, 8, 0), nil, []int{3, 2, 1, 0}},
		{below(0, 1, 3, 0, 8), []int{0, 1, 3, 4}, []int{0, 1, 2, 3}},
		{below(0, 0, 0, 6, 5, 3), []int{0, 4, 1, 3}, nil},
		// A chain of four, and one beside it.
		{below(14, 12, 8, 0, 0), nil, []int{2, 1, 0, 4}},
		{samples.Apart(), nil, nil},
		{samples.Rising(), nil, nil},
		{samples.Storeys(), nil, nil},
		// Five and five.
		{below(0, 1, 3, 7, 15, 0, 32, 96, 224, 480), []int{0, 1, 5, 6}, []int{0, 1, 2, 5}},
	} {
		if got, found, err := Two(c.o); err != api.OK || found != (c.two != nil) || !slices.Equal(got, c.two) {
			t.Errorf("Two(%v) = %v, %v, error %d, want %v", c.o, got, found, err, c.two)
		}
		if got, found, err := Three(c.o); err != api.OK || found != (c.three != nil) || !slices.Equal(got, c.three) {
			t.Errorf("Three(%v) = %v, %v, error %d, want %v", c.o, got, found, err, c.three)
		}
	}
}

// least list of four points of which something is so, as lists are compared.
func least(o api.Order, so func(a, b, c, d int) bool) []int {
	var best []int
	each(4, o.N, func(l []int) {
		if so(l[0], l[1], l[2], l[3]) && (best == nil || slices.Compare(l, best) < 0) {
			best = slices.Clone(l)
		}
	})
	return best
}

func plainTwo(o api.Order) []int {
	return least(o, func(a, b, c, d int) bool {
		return samples.IsBelow(o, a, b) && samples.IsBelow(o, c, d) && !samples.IsBelow(o, a, d) && !samples.IsBelow(o, c, b)
	})
}

func plainThree(o api.Order) []int {
	return least(o, func(a, b, c, d int) bool {
		near := o.Below[d]
		for p := range o.N {
			if samples.IsBelow(o, d, p) {
				near |= 1 << p
			}
		}
		return samples.IsBelow(o, a, b) && samples.IsBelow(o, b, c) && near&(1<<a|1<<b|1<<c) == 0
	})
}

func TestH3ByItsWords(t *testing.T) {
	for _, o := range tried() {
		want := plainTwo(o)
		if got, found, err := Two(o); err != api.OK || found != (want != nil) || !slices.Equal(got, want) || !areFour(got, found) {
			t.Fatalf("Two(%v) = %v, %v, error %d, want %v", o, got, found, err, want)
		}
		want = plainThree(o)
		if got, found, err := Three(o); err != api.OK || found != (want != nil) || !slices.Equal(got, want) || !areFour(got, found) {
			t.Fatalf("Three(%v) = %v, %v, error %d, want %v", o, got, found, err, want)
		}
	}
}

// areFour tells whether a list that was found has four different points, and one that was not has none.
func areFour(list []int, found bool) bool {
	if !found {
		return list == nil
	}
	return len(slices.Compact(slices.Sorted(slices.Values(list)))) == 4
}

// apartBy: the order by the words of H4.
func apartBy(numbers []int, step int) api.Order {
	sets := make([]int, len(numbers))
	for a, lesser := range numbers {
		for b, number := range numbers {
			if number-lesser > step {
				sets[b] |= 1 << a
			}
		}
	}
	return below(sets...)
}

// areUnits tells whether what Units answers is right for an order that has units.
func areUnits(o api.Order, numbers []int, step int) bool {
	for _, number := range numbers {
		if number < -1000000 || number > 1000000 {
			return false
		}
	}
	return len(numbers) == o.N && step >= 0 && slices.Equal(apartBy(numbers, step).Below, o.Below)
}

// zigzag: ten points whose numbers are often just a step apart, or just more than one, so that small steps do not do.
func zigzag() api.Order { return apartBy([]int{0, 10, 20, 11, 21, 31, 22, 32, 12, 42}, 10) }

func TestH4Units(t *testing.T) {
	for _, c := range []struct {
		o    api.Order
		want bool
	}{
		{api.Order{}, true},
		{api.Order{Below: []int{}}, true},
		{below(0), true},
		{below(0, 0), true},
		{below(2, 0), true},
		{below(0, 0, 3, 2), true},
		{below(0, 1, 0), true},
		{below(0, 1, 0, 4), false},
		{below(0, 1, 3, 0), false},
		{below(0, 0, 0, 6, 5, 3), false},
		// A chain of three, one of whose ends only knows the one beside it.
		{below(0, 1, 3, 1), true},
		{samples.Apart(), true},
		{samples.Rising(), true},
		{samples.Falling(), true},
		{samples.Storeys(), true},
		{zigzag(), true},
	} {
		numbers, step, is, err := Units(c.o)
		if err != api.OK || is != c.want || is && !areUnits(c.o, numbers, step) || !is && (numbers != nil || step != 0) {
			t.Errorf("Units(%v) = %v, %d, %v, error %d, want %v", c.o, numbers, step, is, err, c.want)
		}
	}
}

func TestH4OfDrawnNumbers(t *testing.T) {
	draw := new(samples.Draw)
	for i := range 3000 {
		drawn := make([]int, 1+i%10)
		for k := range drawn {
			drawn[k] = draw.Next(60)
		}
		o := apartBy(drawn, i/10%40)
		numbers, step, is, err := Units(o)
		if err != api.OK || !is || !areUnits(o, numbers, step) {
			t.Fatalf("Units(%v) = %v, %d, %v, error %d", o, numbers, step, is, err)
		}
	}
}

func TestH4NoneWhereThereAreNone(t *testing.T) {
	// How many orders of n points have units is well known; numbers up to 9 and steps up to 3 are enough to meet them all.
	for n, want := range []int{1, 1, 3, 19, 183} {
		met := map[[4]int]int{}
		for step := range 4 {
			each(n, 10, func(numbers []int) { met[key(apartBy(numbers, step))] = 1 })
		}
		if len(met) != want {
			t.Errorf("%d points: %d orders have units, want %d", n, len(met), want)
		}
		for _, o := range samples.Orders(n) {
			if numbers, step, is, err := Units(o); err != api.OK || is != (met[key(o)] == 1) {
				t.Errorf("Units(%v) = %v, %d, %v, error %d", o, numbers, step, is, err)
			}
		}
	}
}

func TestH5Theorems(t *testing.T) {
	count := map[[2]bool]int{}
	for _, o := range tried() {
		_, two, _ := Two(o)
		_, three, _ := Three(o)
		spans, is, _ := Spans(o)
		if is == two {
			t.Fatalf("%v: stretches %v, two %v", o, is, two)
		}
		numbers, step, alike, err := Units(o)
		if err != api.OK || alike != (!two && !three) || alike && !areUnits(o, numbers, step) {
			t.Fatalf("%v: units %v %d %v, two %v, three %v", o, numbers, step, alike, two, three)
		}
		firsts, lasts := map[int]int{}, map[int]int{}
		for _, span := range spans {
			firsts[span[0]], lasts[span[1]] = 1, 1
		}
		if len(firsts) != len(lasts) {
			t.Fatalf("%v: stretches %v", o, spans)
		}
		count[[2]bool{is, alike}]++
	}
	if len(count) != 3 || count[[2]bool{true, true}] < 300 || count[[2]bool{true, false}] < 200 {
		t.Errorf("not all kinds were tried: %v", count)
	}
}

func TestA1CheckIsToldFirst(t *testing.T) {
	for _, w := range samples.WrongOrders() {
		if got, is, err := Spans(w.Order); err != w.Err || is || got != nil {
			t.Errorf("Spans(%v) = %v, %v, error %d, want error %d", w.Order, got, is, err, w.Err)
		}
		if got, found, err := Two(w.Order); err != w.Err || found || got != nil {
			t.Errorf("Two(%v) = %v, %v, error %d, want error %d", w.Order, got, found, err, w.Err)
		}
		if got, found, err := Three(w.Order); err != w.Err || found || got != nil {
			t.Errorf("Three(%v) = %v, %v, error %d, want error %d", w.Order, got, found, err, w.Err)
		}
		if got, step, is, err := Units(w.Order); err != w.Err || is || got != nil || step != 0 {
			t.Errorf("Units(%v) = %v, %d, %v, error %d, want error %d", w.Order, got, step, is, err, w.Err)
		}
	}
}

func TestP2P3OnlyReadAndTheSameEachTime(t *testing.T) {
	for _, o := range []api.Order{below(0, 0, 3, 2), below(0, 1, 3, 0), below(0, 1, 3, 0, 8)} {
		list, room := samples.Roomy(o.Below...)
		before := slices.Clone(room)
		o = below(list...)
		spans, _, _ := Spans(o)
		firstSpans := slices.Clone(spans)
		two, _, _ := Two(o)
		firstTwo := slices.Clone(two)
		three, _, _ := Three(o)
		firstThree := slices.Clone(three)
		units, step, _, _ := Units(o)
		firstUnits := slices.Clone(units)
		for i := range spans[:cap(spans)] {
			spans[:cap(spans)][i] = [2]int{-5, -5}
		}
		samples.Spoil(two)
		samples.Spoil(three)
		samples.Spoil(units)
		if !slices.Equal(room, before) {
			t.Errorf("what was handed in was changed: %v", room)
		}
		spans, _, _ = Spans(o)
		two, _, _ = Two(o)
		three, _, _ = Three(o)
		if !slices.Equal(spans, firstSpans) || !slices.Equal(two, firstTwo) || !slices.Equal(three, firstThree) {
			t.Errorf("%v: %v %v %v, and then %v %v %v", o, firstSpans, firstTwo, firstThree, spans, two, three)
		}
		if again, stepAgain, _, _ := Units(o); !slices.Equal(again, firstUnits) || step != stepAgain {
			t.Errorf("Units(%v): %v, %d, and then %v, %d", o, firstUnits, step, again, stepAgain)
		}
	}
}

func TestP2OfOnlyReadsStretches(t *testing.T) {
	room := [][2]int{{2, 3}, {0, 1}, {7, 6}, {7, 6}}
	before := slices.Clone(room)
	got, err := Of(room[:2])
	if err != api.OK || !slices.Equal(got.Below, []int{2, 0}) || !slices.Equal(room, before) {
		t.Errorf("Of(%v) = %v, error %d", room[:2], got, err)
	}
	room[1] = [2]int{5, 5}
	if !slices.Equal(got.Below, []int{2, 0}) {
		t.Errorf("a later change is seen: %v", got)
	}
}
