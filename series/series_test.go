package series

import (
	"math"
	"reflect"
	"slices"
	"testing"

	"hasse/api"
	"hasse/extend"
	"hasse/samples"
)

// Terms in short.
func point(p int) api.Term             { return api.Term{Kind: api.TermPoint, Point: p} }
func beside(kids ...api.Term) api.Term { return api.Term{Kind: api.TermBeside, Kids: kids} }
func over(kids ...api.Term) api.Term   { return api.Term{Kind: api.TermOver, Kids: kids} }

// row of points from one on to one ahead of another.
func row(from, to int) []api.Term {
	var l []api.Term
	for p := from; p < to; p++ {
		l = append(l, point(p))
	}
	return l
}

// below tells an order by its sets.
func below(sets ...int) api.Order { return samples.Below(sets...) }

// drawn term of points, its kinds in one another any way, the same one in itself, too.
func drawn(draw *samples.Draw, points []int) api.Term {
	if len(points) == 1 {
		return point(points[0])
	}
	t := api.Term{Kind: api.TermBeside + draw.Next(2)}
	for len(points) > 0 {
		size := 1 + draw.Next(len(points))
		if size == len(points) && len(t.Kids) == 0 {
			size--
		}
		t.Kids = append(t.Kids, drawn(draw, points[:size]))
		points = points[size:]
	}
	return t
}

// drawnTerms of any number of points, numbered any way.
func drawnTerms(count int) []api.Term {
	draw := new(samples.Draw)
	var terms []api.Term
	for i := range count {
		n := 1 + i%api.MaxPoints
		points := make([]int, n)
		for k := range points {
			other := draw.Next(k + 1)
			points[k] = points[other]
			points[other] = k
		}
		terms = append(terms, drawn(draw, points))
	}
	return terms
}

// where a point stands in a term: the way down to it.
func where(t api.Term, p int) []int {
	if t.Kind == api.TermPoint && t.Point == p {
		return []int{}
	}
	for i, kid := range t.Kids {
		if way := where(kid, p); way != nil {
			return append([]int{i}, way...)
		}
	}
	return nil
}

// isUnder tells by the ways down whether one point is below another one: where they part, it is in a term one above the other, and comes ahead there.
func isUnder(t api.Term, lower, upper int) bool {
	a, b := where(t, lower), where(t, upper)
	for len(a) > 0 && len(b) > 0 && a[0] == b[0] {
		t = t.Kids[a[0]]
		a, b = a[1:], b[1:]
	}
	return len(a) > 0 && t.Kind == api.TermOver && a[0] < b[0]
}

func sizeOf(t api.Term) int {
	if t.Kind == api.TermPoint {
		return 1
	}
	size := 0
	for _, kid := range t.Kids {
		size += sizeOf(kid)
	}
	return size
}

// plainBuild of a term that is right.
func plainBuild(t api.Term) api.Order {
	sets := make([]int, sizeOf(t))
	for lower := range sets {
		for upper := range sets {
			if isUnder(t, lower, upper) {
				sets[upper] |= 1 << lower
			}
		}
	}
	return below(sets...)
}

func TestI1Build(t *testing.T) {
	for _, c := range []struct {
		t    api.Term
		want []int
	}{
		{point(0), []int{0}},
		{api.Term{Kind: api.TermPoint, Kids: []api.Term{}}, []int{0}},
		{beside(point(0), point(1)), []int{0, 0}},
		{beside(point(1), point(0)), []int{0, 0}},
		{over(point(0), point(1)), []int{0, 1}},
		{over(point(1), point(0)), []int{2, 0}},
		{over(beside(point(2), point(0)), over(point(1), beside(point(4), point(3)))), []int{0, 5, 0, 7, 7}},
		{beside(over(point(0), point(3)), beside(point(1), over(point(4), point(2)))), []int{0, 0, 16, 1, 0}},
		{over(over(point(2), point(1)), over(point(0), point(3))), []int{6, 4, 0, 7}},
		{beside(row(0, 10)...), make([]int, 10)},
		{over(row(0, 10)...), samples.Rising().Below},
	} {
		if got, err := Build(c.t); err != api.OK || got.N != len(c.want) || !slices.Equal(got.Below, c.want) {
			t.Errorf("Build(%v) = %v, error %d, want %v", c.t, got, err, c.want)
		}
	}
}

func TestI1ByItsWords(t *testing.T) {
	for _, term := range drawnTerms(500) {
		want := plainBuild(term)
		if got, err := Build(term); err != api.OK || !reflect.DeepEqual(got, want) || !samples.IsOrder(got.Below) {
			t.Fatalf("Build(%v) = %v, error %d, want %v", term, got, err, want)
		}
	}
}

// nested terms, as many as are told, each the only one in the one around it.
func nested(count int) api.Term {
	t := api.Term{Kind: api.TermBeside}
	for range count - 1 {
		t = beside(t)
	}
	return t
}

// endless: a term whose Kids are in themselves.
func endless(kind int) api.Term {
	kids := make([]api.Term, 2)
	for i := range kids {
		kids[i] = api.Term{Kind: kind, Kids: kids}
	}
	return kids[0]
}

type wrongTerm struct {
	t    api.Term
	want api.Errno
}

// wrongTerms: each thing that can be wrong, and where several are, the one that is told.
func wrongTerms() []wrongTerm {
	no := api.Term{}
	lone := beside(point(0))
	parent := api.Term{Kind: api.TermPoint, Kids: row(0, 1)}
	named := api.Term{Kind: api.TermOver, Point: 1, Kids: row(0, 2)}
	return []wrongTerm{
		{over(row(0, 11)...), api.ErrMany},
		{beside(row(5, 16)...), api.ErrMany},
		{beside(append(row(0, 11), no)...), api.ErrMany},
		{over(beside(row(0, 5)...), over(row(5, 11)...)), api.ErrMany},
		{api.Term{Kind: api.TermPoint, Kids: row(0, 10)}, api.ErrMany},
		{beside(make([]api.Term, 40)...), api.ErrMany},
		{api.Term{Kids: make([]api.Term, 40)}, api.ErrMany},
		{beside(make([]api.Term, 1<<20)...), api.ErrMany},
		{nested(41), api.ErrMany},
		{over(nested(20), nested(20)), api.ErrMany},
		{nested(60000), api.ErrMany},
		{endless(api.TermBeside), api.ErrMany},
		{endless(api.TermPoint), api.ErrMany},
		{endless(0), api.ErrMany},
		{beside(make([]api.Term, 39)...), api.ErrKind},
		{api.Term{Kids: make([]api.Term, 39)}, api.ErrKind},
		{nested(40), api.ErrForm},
		{over(nested(19), nested(20)), api.ErrForm},
		{no, api.ErrKind},
		{api.Term{Kind: -1}, api.ErrKind},
		{api.Term{Kind: 4, Kids: row(0, 2)}, api.ErrKind},
		{api.Term{Kind: math.MaxInt, Point: 1}, api.ErrKind},
		{api.Term{Kind: math.MinInt, Kids: []api.Term{lone}}, api.ErrKind},
		{over(point(0), no), api.ErrKind},
		{over(point(7), point(7), no), api.ErrKind},
		{over(point(0), beside(point(1), api.Term{Kind: 4})), api.ErrKind},
		{parent, api.ErrForm},
		{api.Term{Kind: api.TermPoint, Point: 9, Kids: []api.Term{no}}, api.ErrForm},
		{beside(), api.ErrForm},
		{over(), api.ErrForm},
		{lone, api.ErrForm},
		{over(point(0)), api.ErrForm},
		{beside(no), api.ErrForm},
		{named, api.ErrForm},
		{api.Term{Kind: api.TermBeside, Point: -1, Kids: row(0, 2)}, api.ErrForm},
		{api.Term{Kind: api.TermBeside, Point: 1, Kids: []api.Term{no, no}}, api.ErrForm},
		{over(point(5), parent), api.ErrForm},
		{over(point(5), named), api.ErrForm},
		{over(point(0), over(point(1), lone)), api.ErrForm},
		// Each with its Kids ahead of the next one.
		{over(lone, no), api.ErrForm},
		{over(no, lone), api.ErrKind},
		{over(beside(point(0), lone), no), api.ErrForm},
		{over(beside(point(0), no), lone), api.ErrKind},
		{point(1), api.ErrRange},
		{point(-1), api.ErrRange},
		{point(math.MaxInt), api.ErrRange},
		{point(math.MinInt), api.ErrRange},
		{beside(point(0), point(0)), api.ErrRange},
		{beside(point(1), point(2)), api.ErrRange},
		{over(point(0), point(2)), api.ErrRange},
		{over(point(0), beside(point(1), point(0))), api.ErrRange},
		{over(point(0), beside(point(1), point(64))), api.ErrRange},
		{beside(row(1, 11)...), api.ErrRange},
		{over(append(row(0, 9), point(8))...), api.ErrRange},
	}
}

func TestI1I3Wrong(t *testing.T) {
	for i, w := range wrongTerms() {
		if got, err := Build(w.t); err != w.want || got.N != 0 || got.Below != nil {
			t.Errorf("term %d: Build answers %v, error %d, want error %d", i, got, err, w.want)
		}
		if got, err := Rows(w.t); err != w.want || got != 0 {
			t.Errorf("term %d: Rows answers %d, error %d, want error %d", i, got, err, w.want)
		}
	}
}

func TestA1CheckIsToldFirst(t *testing.T) {
	for _, w := range samples.WrongOrders() {
		if term, found, err := Split(w.Order); err != w.Err || found || !reflect.DeepEqual(term, api.Term{}) {
			t.Errorf("Split(%v) = %v, %v, error %d, want error %d", w.Order, term, found, err, w.Err)
		}
		if list, found, err := Zig(w.Order); err != w.Err || found || list != nil {
			t.Errorf("Zig(%v) = %v, %v, error %d, want error %d", w.Order, list, found, err, w.Err)
		}
	}
}

func TestI2Split(t *testing.T) {
	for _, c := range []struct {
		o     api.Order
		want  api.Term
		found bool
	}{
		{api.Order{}, api.Term{}, false},
		{api.Order{Below: []int{}}, api.Term{}, false},
		{below(0), point(0), true},
		{below(0, 0), beside(point(0), point(1)), true},
		{below(0, 1), over(point(0), point(1)), true},
		{below(2, 0), over(point(1), point(0)), true},
		{below(0, 0, 3, 2), api.Term{}, false},
		{below(0, 1, 0, 4), beside(over(point(0), point(1)), over(point(2), point(3))), true},
		{below(8, 8, 11, 0), over(point(3), beside(point(0), point(1)), point(2)), true},
		// The least point is not the one that stands first in its part.
		{below(4, 8, 0, 0), beside(over(point(2), point(0)), over(point(3), point(1))), true},
		{below(24, 4, 0, 0, 8), beside(over(point(3), point(4), point(0)), over(point(2), point(1))), true},
		// A zig deep inside.
		{below(32, 32, 35, 34, 0, 0), api.Term{}, false},
		{samples.Apart(), beside(row(0, 10)...), true},
		{samples.Rising(), over(row(0, 10)...), true},
		{samples.Storeys(), over(beside(row(0, 2)...), beside(row(2, 4)...), beside(row(4, 6)...), beside(row(6, 8)...), beside(row(8, 10)...)), true},
	} {
		if got, found, err := Split(c.o); err != api.OK || found != c.found || !reflect.DeepEqual(got, c.want) {
			t.Errorf("Split(%v) = %v, %v, error %d, want %v, %v", c.o, got, found, err, c.want, c.found)
		}
	}
}

// tried orders: all of up to five points, great ones of any kind, and great ones that can be split.
func tried() []api.Order {
	orders := append(samples.SmallOrders(), samples.NaturalOrders(5)...)
	orders = append(orders, samples.GreatOrders(300)...)
	orders = append(orders, samples.Apart(), samples.Rising(), samples.Falling(), samples.Storeys())
	for _, term := range drawnTerms(400) {
		orders = append(orders, plainBuild(term))
	}
	return orders
}

// canBeSplit tells by all ways to take a set apart whether it can be; what is known of sets is told: 1, it can't be; 2, it can be.
func canBeSplit(o api.Order, set int, told map[int]int) bool {
	if set&(set-1) == 0 {
		return set != 0
	}
	if told[set] == 0 {
		told[set] = 1
		for part := (set - 1) & set; part > 0; part = (part - 1) & set {
			rest := set &^ part
			if (isAlike(o, part, rest, false) || isAlike(o, part, rest, true)) && canBeSplit(o, part, told) && canBeSplit(o, rest, told) {
				told[set] = 2
				break
			}
		}
	}
	return told[set] == 2
}

// isAlike: each point of a set is below each of another one, or none of either is below one of the other.
func isAlike(o api.Order, lower, upper int, under bool) bool {
	for a := range o.N {
		for b := range o.N {
			if lower>>a&1 == 1 && upper>>b&1 == 1 && (samples.IsBelow(o, a, b) != under || samples.IsBelow(o, b, a)) {
				return false
			}
		}
	}
	return true
}

// leastOf the points of a term.
func leastOf(t api.Term) int {
	if t.Kind == api.TermPoint {
		return t.Point
	}
	least := math.MaxInt
	for _, kid := range t.Kids {
		least = min(least, leastOf(kid))
	}
	return least
}

// isNeat: a term is as I2 asks of what is split. There is one such term at most of an order.
func isNeat(t api.Term) bool {
	if t.Kind == api.TermPoint {
		return len(t.Kids) == 0
	}
	for i, kid := range t.Kids {
		if kid.Kind == t.Kind || !isNeat(kid) {
			return false
		}
		if i > 0 && t.Kind == api.TermBeside && leastOf(t.Kids[i-1]) >= leastOf(kid) {
			return false
		}
	}
	return len(t.Kids) > 1 && t.Point == 0
}

func TestI2SplitByItsWords(t *testing.T) {
	counts := [2]int{}
	for _, o := range tried() {
		want := canBeSplit(o, 1<<o.N-1, map[int]int{})
		got, found, err := Split(o)
		if err != api.OK || found != want {
			t.Fatalf("Split(%v) = %v, %v, error %d, want %v", o, got, found, err, want)
		}
		if !found {
			counts[0]++
			if !reflect.DeepEqual(got, api.Term{}) {
				t.Fatalf("Split(%v) = %v, false", o, got)
			}
			continue
		}
		counts[1]++
		if !isNeat(got) || !reflect.DeepEqual(plainBuild(got), o) {
			t.Fatalf("Split(%v) = %v, of which %v is built", o, got, plainBuild(got))
		}
	}
	if counts[0] < 300 || counts[1] < 700 {
		t.Errorf("too few were tried: %v", counts)
	}
}

func TestI2HowManyCanBeSplit(t *testing.T) {
	// How many orders of n numbered points can be split is well known.
	for i, want := range []int{0, 1, 3, 19, 195} {
		count := 0
		for _, o := range samples.Orders(i) {
			if _, found, _ := Split(o); found {
				count++
			}
		}
		if count != want {
			t.Errorf("%d points: %d can be split, want %d", i, count, want)
		}
	}
}

func TestI2Zig(t *testing.T) {
	for _, c := range []struct {
		o    api.Order
		want []int
	}{
		{api.Order{}, nil},
		{below(0), nil},
		{below(0, 0, 3, 3), nil},
		{below(0, 1, 0, 4), nil},
		{below(0, 0, 3, 2), []int{0, 1, 2, 3}},
		{below(0, 0, 1, 3), []int{1, 0, 3, 2}},
		{below(12, 4, 0, 0), []int{3, 2, 0, 1}},
		// Six in a ring.
		{below(0, 0, 0, 6, 5, 3), []int{0, 1, 5, 3}},
		{below(0, 0, 3, 7, 7, 23, 2), []int{0, 1, 2, 6}},
		{samples.Apart(), nil},
		{samples.Rising(), nil},
		{samples.Storeys(), nil},
	} {
		if got, found, err := Zig(c.o); err != api.OK || found != (c.want != nil) || !slices.Equal(got, c.want) {
			t.Errorf("Zig(%v) = %v, %v, error %d, want %v", c.o, got, found, err, c.want)
		}
	}
}

// isZig by the words of I2.
func isZig(o api.Order, list [4]int) bool {
	a, b, c, d := list[0], list[1], list[2], list[3]
	wanted := [][2]int{{a, c}, {b, c}, {b, d}}
	for i, p := range list {
		for k, q := range list {
			if i != k && p == q || samples.IsBelow(o, p, q) != slices.Contains(wanted, [2]int{p, q}) {
				return false
			}
		}
	}
	return true
}

// plainZig: the first one of all lists of four points.
func plainZig(o api.Order) []int {
	n := o.N
	for code := range n * n * n * n {
		list := [4]int{code / n / n / n, code / n / n % n, code / n % n, code % n}
		if isZig(o, list) {
			return list[:]
		}
	}
	return nil
}

func TestI2ZigByItsWords(t *testing.T) {
	zigs := 0
	for _, o := range tried() {
		want := plainZig(o)
		if got, found, err := Zig(o); err != api.OK || found != (want != nil) || !slices.Equal(got, want) || !found && got != nil {
			t.Fatalf("Zig(%v) = %v, %v, error %d, want %v", o, got, found, err, want)
		}
		zigs += len(want) / 4
	}
	if zigs < 300 {
		t.Errorf("only %d zigs were tried", zigs)
	}
}

func TestI3Rows(t *testing.T) {
	for _, c := range []struct {
		t    api.Term
		want int
	}{
		{point(0), 1},
		{beside(point(0), point(1)), 2},
		{over(point(1), point(0)), 1},
		{beside(over(point(0), point(1)), over(point(2), point(3))), 6},
		{over(beside(point(2), point(0)), over(point(1), beside(point(4), point(3)))), 4},
		{beside(beside(point(0), point(1)), beside(point(2), point(3))), 24},
		{beside(row(0, 10)...), 3628800},
		{over(row(0, 10)...), 1},
		{beside(over(row(0, 5)...), over(row(5, 10)...)), 252},
	} {
		if got, err := Rows(c.t); err != api.OK || got != c.want {
			t.Errorf("Rows(%v) = %d, error %d, want %d", c.t, got, err, c.want)
		}
	}
	for _, term := range drawnTerms(400) {
		o := plainBuild(term)
		want, _ := extend.Count(o)
		if got, err := Rows(term); err != api.OK || got != want {
			t.Fatalf("Rows(%v) = %d, error %d, want %d", term, got, err, want)
		}
	}
}

func TestI4ValdesTarjanLawler(t *testing.T) {
	for _, o := range tried() {
		_, found, err := Split(o)
		_, zig, err2 := Zig(o)
		if err != api.OK || err2 != api.OK || found != (!zig && o.N > 0) {
			t.Fatalf("%v: split %v, zig %v, errors %d, %d", o, found, zig, err, err2)
		}
	}
}

func TestI4WhatIsBuiltIsSplitAndBuiltAgain(t *testing.T) {
	for _, term := range drawnTerms(500) {
		o, err := Build(term)
		if err != api.OK {
			t.Fatalf("Build(%v): error %d", term, err)
		}
		neat, found, err := Split(o)
		if err != api.OK || !found || !isNeat(neat) {
			t.Fatalf("Split(%v) = %v, %v, error %d", o, neat, found, err)
		}
		if again, err := Build(neat); err != api.OK || !reflect.DeepEqual(again, o) {
			t.Fatalf("Build(%v) = %v, error %d, want %v", neat, again, err, o)
		}
		if isNeat(term) && !reflect.DeepEqual(neat, term) {
			t.Fatalf("%v is split into %v", term, neat)
		}
		before, _ := Rows(term)
		if rows, err := Rows(neat); err != api.OK || rows != before {
			t.Fatalf("Rows(%v) = %d, error %d, want %d", neat, rows, err, before)
		}
	}
}

// cloned term, of its own memory, with spare room behind each list of Kids.
func cloned(t api.Term) api.Term {
	if t.Kids == nil {
		return t
	}
	kids := make([]api.Term, 0, len(t.Kids)+2)
	for _, kid := range t.Kids {
		kids = append(kids, cloned(kid))
	}
	t.Kids = kids
	return t
}

// spoil all lists of Kids of a term, with the room behind them.
func spoil(t api.Term) {
	for _, kid := range t.Kids {
		spoil(kid)
	}
	whole := t.Kids[:cap(t.Kids)]
	for i := range whole {
		whole[i] = api.Term{Kind: -5, Point: -5}
	}
}

// hasRoom: behind each list of Kids nothing was written.
func hasRoom(t api.Term) bool {
	for _, kid := range t.Kids {
		if !hasRoom(kid) {
			return false
		}
	}
	for _, spare := range t.Kids[len(t.Kids):cap(t.Kids)] {
		if !reflect.DeepEqual(spare, api.Term{}) {
			return false
		}
	}
	return true
}

func TestP2P3TermsAreOnlyReadAndTheSameEachTime(t *testing.T) {
	for _, term := range drawnTerms(40) {
		handed := cloned(term)
		want := plainBuild(term)
		for range 2 {
			got, _ := Build(handed)
			if !reflect.DeepEqual(got, want) {
				t.Fatalf("Build(%v) = %v, want %v", term, got, want)
			}
			samples.Spoil(got.Below)
			Rows(handed)
			if !reflect.DeepEqual(handed, cloned(term)) || !hasRoom(handed) {
				t.Fatalf("%v was changed to %v", term, handed)
			}
		}
		got, _ := Build(handed)
		spoil(handed)
		if !reflect.DeepEqual(got, want) {
			t.Fatalf("what was built of %v hangs on it", term)
		}
	}
}

// spoilEach list of Kids of a term in turn, the room behind it too, put it right again, and look whether the whole is as it was.
func spoilEach(t *testing.T, whole *api.Term, part api.Term, want api.Term) {
	t.Helper()
	kids := slices.Clone(part.Kids)
	room := part.Kids[:cap(part.Kids)]
	for i := range room {
		room[i] = api.Term{Kind: -5}
	}
	copy(part.Kids, kids)
	if !reflect.DeepEqual(*whole, want) {
		t.Fatalf("two lists of %v share memory", want)
	}
	for _, kid := range part.Kids {
		spoilEach(t, whole, kid, want)
	}
}

func TestP2P3OrdersAreOnlyReadAndTermsAreNew(t *testing.T) {
	for _, term := range drawnTerms(40) {
		o := plainBuild(term)
		list, room := samples.Roomy(o.Below...)
		before := slices.Clone(room)
		handed := api.Order{N: o.N, Below: list}
		first, _, _ := Split(handed)
		want := cloned(first)
		spoilEach(t, &first, first, want)
		spoil(first)
		if again, _, _ := Split(handed); !reflect.DeepEqual(again, want) || !slices.Equal(room, before) {
			t.Fatalf("Split(%v) = %v once more, want %v", o, again, want)
		}
	}
	list, room := samples.Roomy(0, 0, 3, 2)
	before := slices.Clone(room)
	for range 2 {
		zig, _, _ := Zig(api.Order{N: 4, Below: list})
		if !slices.Equal(zig, []int{0, 1, 2, 3}) || !slices.Equal(room, before) {
			t.Errorf("Zig = %v, with %v", zig, room)
		}
		samples.Spoil(zig)
	}
}
