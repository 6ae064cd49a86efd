package weigh

import (
	"math"
	"slices"
	"testing"

	"hasse/api"
	"hasse/samples"
)

// filled: a list for n points that has the same weight for each set.
func filled(n, weight int) []int { return slices.Repeat([]int{weight}, 1<<n) }

// lists of as many numbers as are told, from 0 to most, all of them.
func lists(numbers, most int) [][]int { return samples.Maps(numbers, most+1) }

// drawnList for n points, from 0 to most.
func drawnList(n, most int, draw *samples.Draw) []int { return samples.DrawnMap(1<<n, most+1, draw) }

// drawnRising: no set has less than what it has all of.
func drawnRising(n, most int, draw *samples.Draw) []int {
	f := drawnList(n, most, draw)
	for set := range f {
		for point := range n {
			if set>>point&1 == 1 {
				f[set] = max(f[set], f[set-1<<point])
			}
		}
	}
	return f
}

// drawnCurved: each point of a set brings its own share, and the first two together, at times, as much again; only sets from one up to another one have something, for with two of these all of their points, and those that both have, are one of them.
func drawnCurved(n int, draw *samples.Draw) []int {
	var own [api.MaxGround]int
	for point := range own {
		own[point] = draw.Next(3)
	}
	pairs := draw.Next(2)
	must, may := draw.Next(1<<n), draw.Next(1<<n)|draw.Next(1<<n)|draw.Next(1<<n)
	must &= draw.Next(1<<n) & may
	w := make([]int, 1<<n)
	for set := range w {
		if set&must != must || set&may != set {
			continue
		}
		w[set] = 1
		for point := range n {
			if set>>point&1 == 1 {
				w[set] *= own[point]
			}
		}
		if pairs == 1 && n > 1 && set&3 == 3 {
			w[set] *= 2
		}
	}
	return w
}

// hasAll, point by point.
func hasAll(n, set, part int) bool {
	for point := range n {
		if part>>point%2 == 1 && set>>point%2 == 0 {
			return false
		}
	}
	return true
}

// together: all points of two sets, and those that both have, point by point.
func together(n, one, other int) (all, both int) {
	for point := range n {
		first, second := one>>point%2 == 1, other>>point%2 == 1
		if first || second {
			all += 1 << point
		}
		if first && second {
			both += 1 << point
		}
	}
	return all, both
}

// plainRises by the chapter's words.
func plainRises(n int, f []int) bool {
	rises := true
	for set := range f {
		for part := range f {
			if hasAll(n, set, part) && f[set] < f[part] {
				rises = false
			}
		}
	}
	return rises
}

// plainFour by the words of W2; with one list four times by those of W1.
func plainFour(n int, a, b, c, d []int) bool {
	so := true
	for one := range a {
		for other := range b {
			all, both := together(n, one, other)
			if a[one]*b[other] > c[all]*d[both] {
				so = false
			}
		}
	}
	return so
}

// plainSum by the words of W2.
func plainSum(w []int, fs ...[]int) int {
	sum := 0
	for set := range w {
		product := w[set]
		for _, f := range fs {
			product = product * f[set]
		}
		sum = sum + product
	}
	return sum
}

// rises, of what is right.
func rises(t *testing.T, n int, f []int) bool {
	t.Helper()
	got, err := Rises(n, f)
	if err != api.OK {
		t.Fatalf("Rises(%d, %v): error %d", n, f, err)
	}
	return got
}

// curved, of what is right.
func curved(t *testing.T, n int, w []int) bool {
	t.Helper()
	got, err := Curved(n, w)
	if err != api.OK {
		t.Fatalf("Curved(%d, %v): error %d", n, w, err)
	}
	return got
}

// four, of what is right.
func four(t *testing.T, n int, a, b, c, d []int) bool {
	t.Helper()
	got, err := Four(n, a, b, c, d)
	if err != api.OK {
		t.Fatalf("Four(%d, %v, %v, %v, %v): error %d", n, a, b, c, d, err)
	}
	return got
}

// sum of what is right.
func sum(t *testing.T, n int, w []int, fs ...[]int) int {
	t.Helper()
	got, err := Sum(n, w, fs...)
	if err != api.OK {
		t.Fatalf("Sum(%d, %v, %v): error %d", n, w, fs, err)
	}
	return got
}

func TestW1RisesAndCurved(t *testing.T) {
	for _, c := range []struct {
		name          string
		n             int
		list          []int
		rises, curved bool
	}{
		{"no points", 0, []int{0}, true, true},
		{"no points, the greatest weight", 0, []int{1000}, true, true},
		{"one point", 1, []int{2, 3}, true, true},
		{"one point, as much", 1, []int{3, 3}, true, true},
		{"one point, less", 1, []int{3, 2}, false, true},
		{"one point, nothing", 1, []int{3, 0}, false, true},
		{"two points, just enough", 2, []int{1, 2, 2, 4}, true, true},
		{"two points, one too few", 2, []int{1, 2, 2, 3}, true, false},
		{"two points, one more", 2, []int{1, 2, 2, 5}, true, true},
		{"two points, falling", 2, []int{4, 2, 2, 1}, false, true},
		{"two points, falling too far", 2, []int{4, 3, 2, 1}, false, false},
		{"as lists they rise, as sets not", 2, []int{1, 3, 2, 2}, false, false},
		{"sets of one point need not rise", 2, []int{1, 3, 2, 6}, true, true},
		{"one set alone has something", 2, []int{0, 0, 5, 0}, false, true},
		{"two sets apart have", 2, []int{0, 1, 1, 0}, false, false},
		{"all have 0", 3, filled(3, 0), true, true},
		{"all have 1000", 6, filled(6, 1000), true, true},
		{"how many points", 3, []int{0, 1, 1, 2, 1, 2, 2, 3}, true, false},
		{"twice as much for each point", 3, []int{1, 2, 2, 4, 2, 4, 4, 8}, true, true},
		{"of three points the last pair fails", 3, []int{1, 2, 2, 4, 2, 4, 4, 7}, true, false},
		{"only the last set has less", 3, []int{1, 1, 1, 1, 1, 1, 1, 0}, false, false},
		{"the least set has more", 3, []int{2, 1, 1, 1, 1, 1, 1, 1}, false, true},
	} {
		if got := rises(t, c.n, c.list); got != c.rises {
			t.Errorf("%s: Rises(%d, %v) = %v", c.name, c.n, c.list, got)
		}
		if got := curved(t, c.n, c.list); got != c.curved {
			t.Errorf("%s: Curved(%d, %v) = %v", c.name, c.n, c.list, got)
		}
	}
}

func TestW2Sum(t *testing.T) {
	for _, c := range []struct {
		name string
		n    int
		w    []int
		fs   [][]int
		want int
	}{
		{"no points", 0, []int{7}, nil, 7},
		{"no points, times one", 0, []int{7}, [][]int{{6}}, 42},
		{"no points, times two", 0, []int{7}, [][]int{{6}, {5}}, 210},
		{"the document's", 1, []int{2, 3}, [][]int{{1, 5}}, 17},
		{"alone", 1, []int{2, 3}, nil, 5},
		{"times an empty list of lists", 1, []int{2, 3}, [][]int{}, 5},
		{"times two", 1, []int{2, 3}, [][]int{{1, 5}, {10, 2}}, 50},
		{"times nothing", 2, []int{1, 2, 3, 4}, [][]int{{0, 0, 0, 0}}, 0},
		{"one place at a time", 2, []int{1, 2, 3, 4}, [][]int{{0, 0, 1, 0}, {9, 9, 10, 9}}, 30},
		{"all alike", 3, filled(3, 2), [][]int{filled(3, 2), filled(3, 2)}, 64},
		{"as much as can be", 6, filled(6, 1000), [][]int{filled(6, 1000), filled(6, 1000)}, 64_000_000_000},
		{"as much as can be of one", 6, filled(6, 1000), nil, 64_000},
	} {
		if got := sum(t, c.n, c.w, c.fs...); got != c.want {
			t.Errorf("%s: Sum(%d, %v, %v) = %d, want %d", c.name, c.n, c.w, c.fs, got, c.want)
		}
	}
}

func TestW2Four(t *testing.T) {
	for _, c := range []struct {
		name       string
		n          int
		a, b, c, d []int
		want       bool
	}{
		{"as much", 0, []int{2}, []int{3}, []int{6}, []int{1}, true},
		{"one too few", 0, []int{2}, []int{3}, []int{5}, []int{1}, false},
		{"nothing is never more", 0, []int{0}, []int{1000}, []int{0}, []int{0}, true},
		{"more than nothing", 0, []int{1}, []int{1}, []int{1000}, []int{0}, false},
		{"a of all, b of none: c of all, d of none", 1, []int{0, 5}, []int{7, 0}, []int{0, 7}, []int{5, 0}, true},
		{"c is asked of all, not of both", 1, []int{0, 5}, []int{7, 0}, []int{7, 0}, []int{0, 5}, false},
		{"b of all, a of none", 1, []int{5, 0}, []int{0, 7}, []int{0, 7}, []int{5, 0}, true},
		{"two sets apart", 2, []int{0, 3, 0, 0}, []int{0, 0, 4, 0}, []int{0, 0, 0, 6}, []int{2, 0, 0, 0}, true},
		{"two sets apart, one too few", 2, []int{0, 3, 0, 0}, []int{0, 0, 4, 0}, []int{0, 0, 0, 11}, []int{1, 0, 0, 0}, false},
		{"a set with itself", 2, []int{0, 3, 0, 0}, []int{0, 4, 0, 0}, []int{0, 4, 0, 0}, []int{0, 3, 0, 0}, true},
		{"a set with itself, elsewhere", 2, []int{0, 3, 0, 0}, []int{0, 4, 0, 0}, []int{9, 0, 9, 9}, []int{9, 9, 9, 9}, false},
		{"all as great as can be", 6, filled(6, 1000), filled(6, 1000), filled(6, 1000), filled(6, 1000), true},
		{"as great as can be, and one less", 6, filled(6, 1000), filled(6, 1000), filled(6, 1000), filled(6, 999), false},
	} {
		if got := four(t, c.n, c.a, c.b, c.c, c.d); got != c.want {
			t.Errorf("%s: Four = %v", c.name, got)
		}
	}
}

// isToldOf one list and two others: what the words say.
func isToldOf(t *testing.T, n int, w, f, g []int) (doesRise, isCurved bool) {
	t.Helper()
	doesRise, isCurved = rises(t, n, w), curved(t, n, w)
	if doesRise != plainRises(n, w) || isCurved != plainFour(n, w, w, w, w) {
		t.Fatalf("%d points, %v: rises %v, curved %v", n, w, doesRise, isCurved)
	}
	for _, fs := range [][][]int{nil, {f}, {g}, {f, g}} {
		if got, want := sum(t, n, w, fs...), plainSum(w, fs...); got != want {
			t.Fatalf("Sum(%d, %v, %v) = %d, want %d", n, w, fs, got, want)
		}
	}
	return doesRise, isCurved
}

func TestW1W2ByTheirWordsOfFewPoints(t *testing.T) {
	for n, most := range []int{20, 9, 4} {
		draw := new(samples.Draw)
		count := [4]int{}
		for _, w := range lists(1<<n, most) {
			doesRise, isCurved := isToldOf(t, n, w, drawnList(n, 1000, draw), drawnList(n, 1000, draw))
			kind := 0
			if doesRise {
				kind++
			}
			if isCurved {
				kind += 2
			}
			count[kind]++
		}
		if n == 2 && slices.Min(count[:]) < 20 {
			t.Errorf("of each kind of two points: %v", count)
		}
	}
	for code := range 1 << 16 {
		w := make([]int, 16)
		for set := range w {
			w[set] = code >> set & 1
		}
		n := 4
		if code < 1<<8 {
			n, w = 3, w[:8]
		} else if code%5 > 0 {
			continue
		}
		isToldOf(t, n, w, w, w)
	}
}

func TestW1W2ByTheirWordsOfMorePoints(t *testing.T) {
	draw := new(samples.Draw)
	rising, curves := [2]int{}, [2]int{}
	for i := range 1500 {
		n := 3 + i%4
		for _, w := range [][]int{drawnList(n, 1000, draw), drawnRising(n, 1000, draw), drawnCurved(n, draw)} {
			for range 2 {
				doesRise, isCurved := isToldOf(t, n, w, drawnList(n, 1000, draw), drawnList(n, 1000, draw))
				if doesRise {
					rising[1]++
				} else {
					rising[0]++
				}
				if isCurved {
					curves[1]++
				} else {
					curves[0]++
				}
				// One set has a little more or less: what fails, fails at one place.
				at := draw.Next(1 << n)
				w[at] = max(0, min(api.MaxWeight, w[at]+1-2*draw.Next(2)))
			}
		}
	}
	if min(rising[0], rising[1], curves[0], curves[1]) < 1000 {
		t.Errorf("they rise: %v, are curved: %v", rising, curves)
	}
}

// enough: a least list c for which Four is so of a, b and d, if there is one.
func enough(n int, a, b, d []int) ([]int, bool) {
	c := make([]int, 1<<n)
	for one := range a {
		for other := range b {
			all, both := together(n, one, other)
			needed := a[one] * b[other]
			if needed == 0 {
				continue
			}
			if d[both] == 0 {
				return nil, false
			}
			c[all] = max(c[all], (needed+d[both]-1)/d[both])
			if c[all] > api.MaxWeight {
				return nil, false
			}
		}
	}
	return c, true
}

// fours of lists for which Four is so, and that hardly are: with any weight less for a set in c it may not be so.
func fours(count int) (points []int, quads [][4][]int) {
	draw := new(samples.Draw)
	for i := 0; len(points) < count; i++ {
		n := i % (api.MaxGround + 1)
		a, b, d := drawnList(n, 20, draw), drawnList(n, 20, draw), drawnList(n, 20, draw)
		for set := range d {
			if i%3 > 0 {
				d[set]++
			}
			if i%5 == 0 && draw.Next(3) > 0 {
				a[set] = 0
			}
			if i%7 == 0 && draw.Next(3) > 0 {
				b[set] = 0
			}
		}
		if c, found := enough(n, a, b, d); found {
			points, quads = append(points, n), append(quads, [4][]int{a, b, c, d})
		}
	}
	return points, quads
}

func TestW2FourByItsWords(t *testing.T) {
	count := [2]int{}
	ask := func(n int, a, b, c, d []int) {
		want := plainFour(n, a, b, c, d)
		if got := four(t, n, a, b, c, d); got != want {
			t.Fatalf("Four(%d, %v, %v, %v, %v) = %v", n, a, b, c, d, got)
		}
		if want {
			count[1]++
		} else {
			count[0]++
		}
	}
	for _, all := range lists(4, 5) {
		ask(0, all[:1], all[1:2], all[2:3], all[3:])
	}
	for _, all := range lists(8, 2) {
		ask(1, all[:2], all[2:4], all[4:6], all[6:])
	}
	draw := new(samples.Draw)
	points, quads := fours(800)
	for i, n := range points {
		a, b, c, d := quads[i][0], quads[i][1], quads[i][2], quads[i][3]
		ask(n, a, b, c, d)
		ask(n, b, a, c, d)
		ask(n, a, b, d, c)
		at := draw.Next(1 << n)
		c[at] = max(0, c[at]-1)
		ask(n, a, b, c, d)
	}
	if count[0] < 2000 || count[1] < 2000 {
		t.Errorf("not so, and so: %v", count)
	}
}

func TestW2OneListFourTimesIsCurved(t *testing.T) {
	for _, w := range lists(4, 4) {
		if curved(t, 2, w) != four(t, 2, w, w, w, w) {
			t.Fatalf("%v is not told alike", w)
		}
	}
}

// risingLists of n points, with 0 and 1 alone: all of them.
func risingLists(n int) [][]int {
	var all [][]int
	for _, f := range lists(1<<n, 1) {
		if plainRises(n, f) {
			all = append(all, f)
		}
	}
	return all
}

// correlate: W3 of curved weights and what rises.
func correlate(t *testing.T, n int, w, f, g []int) (isMore bool) {
	t.Helper()
	both, all := sum(t, n, w, f, g), sum(t, n, w)
	one, other := sum(t, n, w, f), sum(t, n, w, g)
	if both*all < one*other {
		t.Fatalf("%v, %v, %v: %d times %d is less than %d times %d", w, f, g, both, all, one, other)
	}
	return both*all > one*other
}

func TestW3WhatRisesGoesTogether(t *testing.T) {
	count := [2]int{}
	ask := func(n int, w, f, g []int) {
		if correlate(t, n, w, f, g) {
			count[1]++
		} else {
			count[0]++
		}
	}
	for n := range 3 {
		var curves, rising [][]int
		for _, w := range lists(1<<n, 3) {
			if curved(t, n, w) {
				curves = append(curves, w)
			}
			if rises(t, n, w) {
				rising = append(rising, w)
			}
		}
		for i, w := range curves {
			for j, f := range rising {
				for k, g := range rising {
					if n < 2 || (i+j+k)%7 == 0 {
						ask(n, w, f, g)
					}
				}
			}
		}
	}
	// HARRIS: each point has its own share, and what is asked for stays so with more points.
	for _, f := range risingLists(3) {
		for _, g := range risingLists(3) {
			ask(3, filled(3, 1), f, g)
			ask(3, []int{1, 2, 3, 6, 5, 10, 15, 30}, f, g)
		}
	}
	draw := new(samples.Draw)
	for i := range 3000 {
		n := 3 + i%4
		w := drawnCurved(n, draw)
		if curved(t, n, w) {
			ask(n, w, drawnRising(n, 1000, draw), drawnRising(n, 1000, draw))
			ask(n, w, drawnRising(n, 1, draw), drawnRising(n, 9, draw))
		}
	}
	if count[0] < 1000 || count[1] < 5000 {
		t.Errorf("as much, and more: %v", count)
	}
}

func TestW3NotOfAllWeights(t *testing.T) {
	// Of what is not curved, or does not rise, it need not be so: neither can be left out.
	f, g := []int{0, 1, 0, 1}, []int{0, 0, 1, 1}
	for _, c := range [][3][]int{{{0, 1, 1, 0}, f, g}, {{1, 1, 1, 1}, f, {1, 0, 1, 0}}} {
		both, all := sum(t, 2, c[0], c[1], c[2]), sum(t, 2, c[0])
		one, other := sum(t, 2, c[0], c[1]), sum(t, 2, c[0], c[2])
		if both*all >= one*other {
			t.Errorf("%v: %d times %d, %d times %d", c, both, all, one, other)
		}
	}
}

func TestW3IfFourIsSo(t *testing.T) {
	count := [2]int{}
	ask := func(n int, a, b, c, d []int) {
		if !four(t, n, a, b, c, d) {
			return
		}
		left, right := sum(t, n, a)*sum(t, n, b), sum(t, n, c)*sum(t, n, d)
		if left > right {
			t.Fatalf("%v, %v, %v, %v: %d is more than %d", a, b, c, d, left, right)
		}
		if left < right {
			count[1]++
		} else {
			count[0]++
		}
	}
	for _, all := range lists(8, 2) {
		ask(1, all[:2], all[2:4], all[4:6], all[6:])
	}
	points, quads := fours(3000)
	for i, n := range points {
		ask(n, quads[i][0], quads[i][1], quads[i][2], quads[i][3])
	}
	if count[0] < 100 || count[1] < 3000 {
		t.Errorf("as much, and less: %v", count)
	}
}

// isRefused: all calls with a list at each of their places, the others being right, tell the error and nothing else.
func isRefused(t *testing.T, n int, list, right []int, want api.Errno) {
	t.Helper()
	if got, err := Rises(n, list); err != want || got {
		t.Errorf("Rises(%d, %v) = %v, error %d, want error %d", n, list, got, err, want)
	}
	if got, err := Curved(n, list); err != want || got {
		t.Errorf("Curved(%d, %v) = %v, error %d, want error %d", n, list, got, err, want)
	}
	for place := range 4 {
		all := [4][]int{right, right, right, right}
		all[place] = list
		if got, err := Four(n, all[0], all[1], all[2], all[3]); err != want || got {
			t.Errorf("Four(%d, %v) = %v, error %d, want error %d", n, all, got, err, want)
		}
		for size := place + 1; size <= 3; size++ {
			if got, err := Sum(n, all[0], all[1:size]...); err != want || got != 0 {
				t.Errorf("Sum(%d, %v) = %d, error %d, want error %d", n, all[:size], got, err, want)
			}
		}
	}
}

func TestW1HowManyPointsIsToldFirst(t *testing.T) {
	for _, n := range []int{-1, 7, 8, 10, 63, 64, 65, math.MaxInt, math.MinInt} {
		for _, list := range [][]int{nil, {}, {0}, {-1}, {1001}, filled(6, 1), filled(7, 1), filled(7, 2000)} {
			isRefused(t, n, list, list, api.ErrMany)
		}
	}
}

func TestW1Forms(t *testing.T) {
	for n := range 7 {
		for _, size := range []int{0, 1, n, 1<<n - 1, 1<<n + 1, 2 << n, 64} {
			if size == 1<<n {
				continue
			}
			for _, weight := range []int{0, 1, 1000, 1001, -1} {
				isRefused(t, n, slices.Repeat([]int{weight}, size), filled(n, 1), api.ErrForm)
				// The forms of all lists come ahead of what is in one of them.
				for _, wrong := range []int{-1, 1001, math.MaxInt} {
					list := filled(n, wrong)
					short := slices.Repeat([]int{weight}, size)
					if got, err := Four(n, list, list, list, short); err != api.ErrForm || got {
						t.Errorf("Four(%d, .., %v) = %v, error %d", n, short, got, err)
					}
					if got, err := Four(n, short, list, list, list); err != api.ErrForm || got {
						t.Errorf("Four(%d, %v, ..) = %v, error %d", n, short, got, err)
					}
					if got, err := Sum(n, list, list, short); err != api.ErrForm || got != 0 {
						t.Errorf("Sum(%d, .., %v) = %d, error %d", n, short, got, err)
					}
					if got, err := Sum(n, short, list); err != api.ErrForm || got != 0 {
						t.Errorf("Sum(%d, %v, ..) = %d, error %d", n, short, got, err)
					}
				}
			}
		}
		isRefused(t, n, nil, filled(n, 1), api.ErrForm)
	}
}

func TestW1Weights(t *testing.T) {
	for n := range 7 {
		for _, at := range []int{0, 1<<n - 1, 1 << n / 2} {
			for _, weight := range []int{-1, 1001, math.MaxInt, math.MinInt} {
				list := filled(n, 1)
				list[at] = weight
				isRefused(t, n, list, filled(n, 1000), api.ErrRange)
			}
			for _, weight := range []int{0, 1000} {
				list := filled(n, 1)
				list[at] = weight
				if got := sum(t, n, list); got != weight+1<<n-1 {
					t.Errorf("Sum(%d, %v) = %d", n, list, got)
				}
			}
		}
	}
}

func TestW2NoMoreThanTwo(t *testing.T) {
	for _, n := range []int{-1, 0, 1, 7, math.MaxInt, math.MinInt} {
		for _, w := range [][]int{nil, {1}, {1, 1}, {-1}, {1001, 1}} {
			for size := 3; size < 6; size++ {
				if got, err := Sum(n, w, slices.Repeat([][]int{w}, size)...); err != api.ErrMany || got != 0 {
					t.Errorf("Sum(%d, %v, %d more) = %d, error %d", n, w, size, got, err)
				}
			}
		}
	}
}

func TestP2P3OnlyReadAndTheSameEachTime(t *testing.T) {
	w, wRoom := samples.Roomy(1, 2, 3, 6)
	f, fRoom := samples.Roomy(0, 5, 7, 9)
	g, gRoom := samples.Roomy(1, 1, 1000, 1000)
	rooms := func() []int { return slices.Concat(wRoom, fRoom, gRoom) }
	before := rooms()
	whole := [][]int{f, g, w, g}
	for range 3 {
		for most := range 3 {
			fs := whole[:most]
			want := []int{12, 85, 75010}[most]
			if got := sum(t, 2, w, fs...); got != want {
				t.Fatalf("Sum of %d = %d, want %d", most, got, want)
			}
			for i, list := range [][]int{f, g, w, g} {
				if &whole[i][0] != &list[0] || len(whole[i]) != 4 {
					t.Fatalf("the room behind the lists was changed at %d", i)
				}
			}
		}
		if !rises(t, 2, w) || !curved(t, 2, w) || curved(t, 2, f) || four(t, 2, w, f, g, w) {
			t.Fatal("they are told otherwise")
		}
		if !slices.Equal(before, rooms()) {
			t.Fatal("a list was changed")
		}
	}
}
