package convex

import (
	"math"
	"reflect"
	"slices"
	"testing"

	"hasse/api"
	"hasse/extend"
	"hasse/order"
	"hasse/samples"
)

// below tells an order by its sets.
func below(sets ...int) api.Order { return samples.Below(sets...) }

// family tells one by its sets.
func family(n int, sets ...int) api.Family { return samples.FamilyOf(n, sets...) }

// line of three points, of which the middle one is between the others.
func line() api.Family { return family(3, 0, 1, 3, 4, 5, 6, 7) }

// triedOrders: small ones, all of them, and great ones.
func triedOrders() []api.Order {
	orders := append(samples.SmallOrders(), samples.GreatOrders(60)...)
	return append(orders, samples.Apart(), samples.Rising(), samples.Falling(), samples.Storeys())
}

// has: a point is in a set.
func has(set, point int) bool { return set>>point%2 == 1 }

// hasAll: a set has all of another one.
func hasAll(set, part int) bool { return set|part == set }

// size of a set, point by point.
func size(set int) int {
	count := 0
	for point := range 10 {
		if has(set, point) {
			count++
		}
	}
	return count
}

// plainAccessible by the words of the chapter.
func plainAccessible(f api.Family) bool {
	if !slices.Contains(f.Sets, 0) {
		return false
	}
	for _, set := range f.Sets {
		less := func(other int) bool { return hasAll(set, other) && size(other) == size(set)-1 }
		if set > 0 && !slices.ContainsFunc(f.Sets, less) {
			return false
		}
		for _, other := range f.Sets {
			if _, found := slices.BinarySearch(f.Sets, set|other); !found {
				return false
			}
		}
	}
	return true
}

// plainWhole: each point is in some of the sets.
func plainWhole(f api.Family) bool {
	for point := range f.N {
		if !slices.ContainsFunc(f.Sets, func(set int) bool { return has(set, point) }) {
			return false
		}
	}
	return true
}

// plainConvex: all sets whose rest is one of the family, rising.
func plainConvex(f api.Family) []int {
	var convex []int
	for set := range 1 << f.N {
		if slices.Contains(f.Sets, 1<<f.N-1-set) {
			convex = append(convex, set)
		}
	}
	return convex
}

// plainHull by the words of Q2, of which there must be just one.
func plainHull(t *testing.T, convex []int, set int) int {
	t.Helper()
	hulls := []int{}
	for _, c := range convex {
		is := hasAll(c, set)
		for _, other := range convex {
			is = is && (!hasAll(other, set) || hasAll(other, c))
		}
		if is {
			hulls = append(hulls, c)
		}
	}
	if len(hulls) != 1 {
		t.Fatalf("hulls of %d: %v", set, hulls)
	}
	return hulls[0]
}

// plainWords: all ways to go on from a beginning are tried.
func plainWords(f api.Family, beginning int) int {
	if !slices.Contains(f.Sets, beginning) {
		return 0
	}
	if beginning == 1<<f.N-1 {
		return 1
	}
	count := 0
	for point := range f.N {
		if !has(beginning, point) {
			count += plainWords(f, beginning+1<<point)
		}
	}
	return count
}

// spoilt: families that are nearly those that are told: with a set less, or one more.
func spoilt(families []api.Family) []api.Family {
	draw := new(samples.Draw)
	var others []api.Family
	for _, f := range families {
		place := draw.Next(len(f.Sets))
		others = append(others, family(f.N, slices.Delete(slices.Clone(f.Sets), place, place+1)...))
		if set := draw.Next(1 << f.N); !slices.Contains(f.Sets, set) {
			others = append(others, family(f.N, slices.Sorted(slices.Values(append(slices.Clone(f.Sets), set)))...))
		}
		if f.N < 10 {
			others = append(others, family(f.N+1, f.Sets...))
		}
	}
	return others
}

// good families: accessible ones with all points, all small ones among them.
func good() []api.Family {
	var families []api.Family
	for n := range 5 {
		for _, f := range samples.Families(n) {
			if plainAccessible(f) && plainWhole(f) {
				families = append(families, f)
			}
		}
	}
	return append(families, samples.GreatFamilies(60)...)
}

// bad families, which are no such ones.
func bad() []api.Family {
	var families []api.Family
	for _, f := range append(samples.SmallFamilies(), spoilt(samples.GreatFamilies(60))...) {
		if !plainAccessible(f) || !plainWhole(f) {
			families = append(families, f)
		}
	}
	return families
}

func TestQ1Check(t *testing.T) {
	for _, f := range append(samples.SmallFamilies(), samples.GreatFamilies(30)...) {
		if err := Check(f); err != api.OK {
			t.Fatalf("Check(%v) = %d", f, err)
		}
	}
	for _, f := range []api.Family{{}, {Sets: []int{}}, family(0, 0), family(10), family(10, 1023), family(10, 0, 512, 1023), family(1, 1)} {
		if err := Check(f); err != api.OK {
			t.Errorf("Check(%v) = %d", f, err)
		}
	}
	for _, w := range samples.WrongFamilies() {
		if err := Check(w.Family); err != w.Err {
			t.Errorf("Check(%v) = %d, want %d", w.Family, err, w.Err)
		}
	}
}

func TestQ1AllOthersTellCheckFirst(t *testing.T) {
	for _, w := range samples.WrongFamilies() {
		if got, err := Accessible(w.Family); err != w.Err || got {
			t.Errorf("Accessible(%v) = %v, error %d, want error %d", w.Family, got, err, w.Err)
		}
		if got, err := Words(w.Family); err != w.Err || got != 0 {
			t.Errorf("Words(%v) = %d, error %d, want error %d", w.Family, got, err, w.Err)
		}
		for _, set := range []int{0, 1, -1, 1 << 20, math.MaxInt, math.MinInt} {
			if got, err := Hull(w.Family, set); err != w.Err || got != 0 {
				t.Errorf("Hull(%v, %d) = %d, error %d, want error %d", w.Family, set, got, err, w.Err)
			}
			if got, err := Corners(w.Family, set); err != w.Err || got != 0 {
				t.Errorf("Corners(%v, %d) = %d, error %d, want error %d", w.Family, set, got, err, w.Err)
			}
		}
	}
}

func TestQ1Accessible(t *testing.T) {
	for _, c := range []struct {
		name string
		f    api.Family
		want bool
	}{
		{"nothing", api.Family{}, false},
		{"no points", family(0, 0), true},
		{"no sets", family(10), false},
		{"only that of no points", family(10, 0), true},
		{"a line", line(), true},
		{"without that of no points", family(1, 1), false},
		{"without what two have together", family(2, 0, 1, 2), false},
		{"two points more at once", family(2, 0, 3), false},
		{"one less, but of other points", family(3, 0, 1, 6, 7), false},
		{"one way up", family(4, 0, 8, 10, 11, 15), true},
		{"not all points", family(3, 0, 1, 2, 3), true},
		{"all sets", samples.AllSets(10), true},
	} {
		if got, err := Accessible(c.f); err != api.OK || got != c.want {
			t.Errorf("%s: %v, error %d", c.name, got, err)
		}
	}
}

func TestQ1AccessibleByItsWords(t *testing.T) {
	count := map[bool]int{}
	great := samples.GreatFamilies(60)
	for _, f := range slices.Concat(samples.SmallFamilies(), samples.Families(4), great, spoilt(great)) {
		want := plainAccessible(f)
		if got, err := Accessible(f); err != api.OK || got != want {
			t.Fatalf("Accessible(%v) = %v, error %d", f, got, err)
		}
		count[want]++
	}
	if count[true] < 500 || count[false] < 50000 {
		t.Errorf("too few were asked: %v", count)
	}
	for _, f := range great {
		if is, _ := Accessible(f); !is {
			t.Errorf("%v is not accessible", f)
		}
	}
}

func TestQ1HowManyAreAccessible(t *testing.T) {
	// How many there are that have all of n points is well known.
	for n, want := range []int{1, 1, 3, 22, 485} {
		count := 0
		for _, f := range samples.Families(n) {
			if is, err := Accessible(f); err == api.OK && is && plainWhole(f) {
				count++
			}
		}
		if count != want {
			t.Errorf("%d points: %d, want %d", n, count, want)
		}
	}
}

func TestQ1IdealsAndEnds(t *testing.T) {
	for _, c := range []struct {
		o            api.Order
		ideals, ends []int
	}{
		{below(), []int{0}, []int{0}},
		{api.Order{Below: []int{}}, []int{0}, []int{0}},
		{below(0), []int{0, 1}, []int{0, 1}},
		{below(0, 0), []int{0, 1, 2, 3}, []int{0, 1, 2, 3}},
		{below(0, 1), []int{0, 1, 3}, []int{0, 1, 2, 3}},
		{below(0, 1, 3), []int{0, 1, 3, 7}, []int{0, 1, 3, 4, 5, 6, 7}},
		{below(6, 4, 0), []int{0, 4, 6, 7}, []int{0, 1, 3, 4, 5, 6, 7}},
		{below(0, 1, 1), []int{0, 1, 3, 5, 7}, []int{0, 1, 2, 3, 4, 5, 6, 7}},
		{below(0, 1, 3, 7), []int{0, 1, 3, 7, 15}, []int{0, 1, 3, 7, 8, 9, 11, 12, 13, 14, 15}},
		{samples.Apart(), samples.AllSets(10).Sets, samples.AllSets(10).Sets},
	} {
		if got, err := Ideals(c.o); err != api.OK || got.N != c.o.N || !slices.Equal(got.Sets, c.ideals) {
			t.Errorf("Ideals(%v) = %v, error %d, want %v", c.o, got, err, c.ideals)
		}
		if got, err := Ends(c.o); err != api.OK || got.N != c.o.N || !slices.Equal(got.Sets, c.ends) {
			t.Errorf("Ends(%v) = %v, error %d, want %v", c.o, got, err, c.ends)
		}
	}
}

// isIdeal by the words of A4.
func isIdeal(o api.Order, set int) bool {
	for lower := range o.N {
		for upper := range o.N {
			if samples.IsBelow(o, lower, upper) && has(set, upper) && !has(set, lower) {
				return false
			}
		}
	}
	return true
}

// plainIdeals: all of them, rising.
func plainIdeals(o api.Order) []int {
	var ideals []int
	for set := range 1 << o.N {
		if isIdeal(o, set) {
			ideals = append(ideals, set)
		}
	}
	return ideals
}

// plainEnds by the words of Q1, each one once.
func plainEnds(o api.Order) []int {
	met := map[int]int{}
	for _, ideal := range plainIdeals(o) {
		for _, rest := range plainIdeals(o) {
			met[ideal|(1<<o.N-1-rest)]++
		}
	}
	var ends []int
	for set := range 1 << o.N {
		if met[set] > 0 {
			ends = append(ends, set)
		}
	}
	return ends
}

func TestQ1IdealsAndEndsByTheirWords(t *testing.T) {
	for _, o := range triedOrders() {
		want := family(o.N, plainIdeals(o)...)
		if got, err := Ideals(o); err != api.OK || !reflect.DeepEqual(got, want) {
			t.Fatalf("Ideals(%v) = %v, error %d, want %v", o, got, err, want)
		}
		want = family(o.N, plainEnds(o)...)
		if got, err := Ends(o); err != api.OK || !reflect.DeepEqual(got, want) {
			t.Fatalf("Ends(%v) = %v, error %d, want %v", o, got, err, want)
		}
	}
}

func TestQ1BothAreAccessible(t *testing.T) {
	for _, o := range triedOrders() {
		ideals, _ := Ideals(o)
		ends, _ := Ends(o)
		for _, f := range []api.Family{ideals, ends} {
			if is, err := Accessible(f); err != api.OK || !is {
				t.Fatalf("%v: %v is not accessible, error %d", o, f, err)
			}
			if _, err := Words(f); err != api.OK {
				t.Fatalf("%v: Words(%v): error %d", o, f, err)
			}
		}
	}
}

func TestA1CheckIsToldFirst(t *testing.T) {
	for _, w := range samples.WrongOrders() {
		if got, err := Ideals(w.Order); err != w.Err || got.N != 0 || got.Sets != nil {
			t.Errorf("Ideals(%v) = %v, error %d, want error %d", w.Order, got, err, w.Err)
		}
		if got, err := Ends(w.Order); err != w.Err || got.N != 0 || got.Sets != nil {
			t.Errorf("Ends(%v) = %v, error %d, want error %d", w.Order, got, err, w.Err)
		}
	}
}

func TestQ2HullAndCorners(t *testing.T) {
	stairs, _ := Ideals(below(0, 1, 3, 7))
	both, _ := Ends(below(0, 1, 3, 7))
	for _, c := range []struct {
		name               string
		f                  api.Family
		set, hull, corners int
	}{
		{"no points", family(0, 0), 0, 0, 0},
		{"one point, none of it", family(1, 0, 1), 0, 0, 0},
		{"one point", family(1, 0, 1), 1, 1, 1},
		{"a line, the ends", line(), 5, 7, 5},
		{"a line, all", line(), 7, 7, 5},
		{"a line, the middle", line(), 2, 2, 2},
		{"a line, an end and the middle", line(), 6, 6, 6},
		{"all sets", samples.AllSets(10), 341, 341, 341},
		// What is convex is what has with a point all above it.
		{"ideals of a chain", stairs, 2, 14, 2},
		{"ideals of a chain, two", stairs, 10, 14, 2},
		{"ideals of a chain, all", stairs, 15, 15, 1},
		{"ideals of a chain, none", stairs, 0, 0, 0},
		{"ends of a chain", both, 9, 15, 9},
		{"ends of a chain, nearer", both, 10, 14, 10},
		{"ends of a chain, three", both, 11, 15, 9},
	} {
		if got, err := Hull(c.f, c.set); err != api.OK || got != c.hull {
			t.Errorf("%s: hull %d, error %d, want %d", c.name, got, err, c.hull)
		}
		if got, err := Corners(c.f, c.set); err != api.OK || got != c.corners {
			t.Errorf("%s: corners %d, error %d, want %d", c.name, got, err, c.corners)
		}
	}
}

// asked sets: all of few points, some of many.
func asked(n int, draw *samples.Draw) []int {
	if n <= 4 {
		return samples.AllSets(n).Sets
	}
	list := []int{0, 1<<n - 1}
	for range 12 {
		list = append(list, draw.Next(1<<n), 1<<draw.Next(n)|1<<draw.Next(n))
	}
	return list
}

func TestQ2HullAndCornersByTheirWords(t *testing.T) {
	draw := new(samples.Draw)
	wider, fewer := 0, 0
	for _, f := range good() {
		if len(f.Sets) == 1024 {
			continue
		}
		convex := plainConvex(f)
		for _, set := range asked(f.N, draw) {
			hull := plainHull(t, convex, set)
			if got, err := Hull(f, set); err != api.OK || got != hull {
				t.Fatalf("Hull(%v, %d) = %d, error %d, want %d", f, set, got, err, hull)
			}
			corners := 0
			for point := range f.N {
				if has(set, point) && !has(plainHull(t, convex, set-1<<point), point) {
					corners += 1 << point
				}
			}
			if got, err := Corners(f, set); err != api.OK || got != corners {
				t.Fatalf("Corners(%v, %d) = %d, error %d, want %d", f, set, got, err, corners)
			}
			if hull != set {
				wider++
			}
			if corners != set {
				fewer++
			}
		}
	}
	if wider < 1000 || fewer < 1000 {
		t.Errorf("only %d hulls had more, and only %d corners less", wider, fewer)
	}
}

func TestQ2HullsOfEndsAreWhatIsBetween(t *testing.T) {
	draw := new(samples.Draw)
	for _, o := range triedOrders() {
		ends, _ := Ends(o)
		for _, set := range asked(o.N, draw) {
			want := set
			for point := range o.N {
				above, under := false, false
				for other := range o.N {
					above = above || has(set, other) && samples.IsBelow(o, other, point)
					under = under || has(set, other) && samples.IsBelow(o, point, other)
				}
				if above && under {
					want |= 1 << point
				}
			}
			if got, err := Hull(ends, set); err != api.OK || got != want {
				t.Fatalf("%v: hull of %d is %d, error %d, want %d", o, set, got, err, want)
			}
		}
	}
}

func TestQ2Words(t *testing.T) {
	for _, c := range []struct {
		name string
		f    api.Family
		want int
	}{
		{"no points", family(0, 0), 1},
		{"one point", family(1, 0, 1), 1},
		{"two points", family(2, 0, 1, 2, 3), 2},
		{"two points, the second one first", family(2, 0, 2, 3), 1},
		{"a line", line(), 4},
		{"all sets", samples.AllSets(10), 3628800},
		{"one way up", samples.Beginnings(10, []int{3, 1, 4, 0, 5, 9, 2, 6, 8, 7}), 1},
		{"from both ends", samples.Beginnings(10, []int{0, 1, 2, 3, 4, 5, 6, 7, 8, 9}, []int{9, 8, 7, 6, 5, 4, 3, 2, 1, 0}), 512},
	} {
		if got, err := Words(c.f); err != api.OK || got != c.want {
			t.Errorf("%s: %d, error %d, want %d", c.name, got, err, c.want)
		}
	}
}

func TestQ2WordsByTheirWords(t *testing.T) {
	most := 0
	for _, f := range good() {
		if f.N > 8 {
			continue
		}
		want := plainWords(f, 0)
		if got, err := Words(f); err != api.OK || got != want {
			t.Fatalf("Words(%v) = %d, error %d, want %d", f, got, err, want)
		}
		most = max(most, want)
	}
	if most < 1000 {
		t.Errorf("at most %d words", most)
	}
}

func TestQ2OtherFamilies(t *testing.T) {
	missing := 0
	for _, f := range bad() {
		if plainAccessible(f) {
			missing++
		}
		if got, err := Words(f); err != api.ErrState || got != 0 {
			t.Fatalf("Words(%v) = %d, error %d", f, got, err)
		}
		// What is no point of a set comes behind that.
		for _, set := range []int{0, 1, 1<<f.N - 1, 1 << f.N, -1, math.MaxInt, math.MinInt} {
			if got, err := Hull(f, set); err != api.ErrState || got != 0 {
				t.Fatalf("Hull(%v, %d) = %d, error %d", f, set, got, err)
			}
			if got, err := Corners(f, set); err != api.ErrState || got != 0 {
				t.Fatalf("Corners(%v, %d) = %d, error %d", f, set, got, err)
			}
		}
	}
	if missing < 20 {
		t.Errorf("only %d accessible families that lack a point", missing)
	}
}

func TestQ2WhatIsNoPoint(t *testing.T) {
	for _, f := range good() {
		for _, set := range []int{-1, -2, 1 << f.N, 1<<f.N + 1, 1 << 40, math.MaxInt, math.MinInt} {
			if got, err := Hull(f, set); err != api.ErrRange || got != 0 {
				t.Fatalf("Hull(%v, %d) = %d, error %d", f, set, got, err)
			}
			if got, err := Corners(f, set); err != api.ErrRange || got != 0 {
				t.Fatalf("Corners(%v, %d) = %d, error %d", f, set, got, err)
			}
		}
	}
}

func TestQ3TheHullOfCornersIsTheHull(t *testing.T) {
	draw := new(samples.Draw)
	for _, f := range good() {
		for _, set := range asked(f.N, draw) {
			hull, _ := Hull(f, set)
			corners, _ := Corners(f, set)
			if again, err := Hull(f, corners); err != api.OK || again != hull {
				t.Fatalf("%v: the hull of %d is %d, of its corners %d it is %d, error %d", f, set, hull, corners, again, err)
			}
			if same, err := Corners(f, hull); err != api.OK || same != corners {
				t.Fatalf("%v: the corners of %d are %d, of its hull %d they are %d, error %d", f, set, corners, hull, same, err)
			}
		}
	}
}

func TestQ3OfTwoPointsOutsideNotEachIsInTheHullWithTheOther(t *testing.T) {
	draw := new(samples.Draw)
	tried := 0
	for _, f := range good() {
		for _, set := range asked(f.N, draw) {
			convex, _ := Hull(f, set)
			for p := range f.N {
				for q := range p {
					if has(convex, p) || has(convex, q) {
						continue
					}
					tried++
					one, _ := Hull(f, convex|1<<p)
					two, _ := Hull(f, convex|1<<q)
					if has(one, q) && has(two, p) {
						t.Fatalf("%v: outside %d are %d and %d", f, convex, p, q)
					}
				}
			}
		}
	}
	if tried < 5000 {
		t.Errorf("only %d were tried", tried)
	}
}

func TestQ3TheWordsOfIdealsAreRows(t *testing.T) {
	for _, o := range triedOrders() {
		ideals, _ := Ideals(o)
		want, _ := extend.Count(o)
		if got, err := Words(ideals); err != api.OK || got != want {
			t.Fatalf("%v: %d words, error %d, %d rows", o, got, err, want)
		}
		// The ends of an order and of its dual are the same.
		dual, _ := order.Dual(o)
		one, _ := Ends(o)
		if two, err := Ends(dual); err != api.OK || !reflect.DeepEqual(one, two) {
			t.Fatalf("%v: ends %v, of its dual %v, error %d", o, one, two, err)
		}
	}
}

func TestP2P3FamiliesAreOnlyReadAndTheSameEachTime(t *testing.T) {
	type answers struct{ accessible, hull, corners, words int }
	ask := func(f api.Family, set int) answers {
		var a answers
		if is, _ := Accessible(f); is {
			a.accessible = 1
		}
		a.hull, _ = Hull(f, set)
		a.corners, _ = Corners(f, set)
		a.words, _ = Words(f)
		return a
	}
	for _, f := range slices.Concat([]api.Family{{}, line(), family(0, 0), family(2, 0, 3)}, samples.GreatFamilies(20)) {
		list, room := samples.Roomy(f.Sets...)
		before := slices.Clone(room)
		for set := range min(8, 1<<max(f.N, 0)) {
			want := ask(f, set)
			for range 2 {
				if got := ask(family(f.N, list...), set); got != want || !slices.Equal(room, before) {
					t.Fatalf("%v and %d: %v and %v", f, set, got, want)
				}
			}
		}
	}
}

func TestP2P3OrdersAreOnlyReadAndTheSameEachTime(t *testing.T) {
	for _, o := range []api.Order{below(), below(0), below(0, 1, 0), samples.Falling(), samples.Storeys()} {
		list, room := samples.Roomy(o.Below...)
		before := slices.Clone(room)
		for range 2 {
			ideals, err := Ideals(api.Order{N: o.N, Below: list})
			ends, fault := Ends(api.Order{N: o.N, Below: list})
			if err != api.OK || fault != api.OK || !slices.Equal(ideals.Sets, plainIdeals(o)) || !slices.Equal(ends.Sets, plainEnds(o)) || !slices.Equal(room, before) {
				t.Fatalf("%v: ideals %v, ends %v", o, ideals, ends)
			}
			if samples.Shared(room, ideals.Sets, ends.Sets) {
				t.Fatalf("%v: answers share memory", o)
			}
			samples.Spoil(ideals.Sets)
			samples.Spoil(ends.Sets)
		}
	}
}
