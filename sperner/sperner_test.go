package sperner

import (
	"math"
	"math/bits"
	"reflect"
	"slices"
	"sync"
	"testing"

	"hasse/api"
	"hasse/samples"
)

// family tells one by its sets.
func family(n int, sets ...int) api.Family { return samples.FamilyOf(n, sets...) }

// size of a set.
func size(set int) int { return bits.OnesCount(uint(set)) }

// choose: how many sets of k there are of n, each looked at.
func choose(n, k int) int { return len(ofSize(n, k)) }

// ofSize: all sets of k of n points, rising.
func ofSize(n, k int) []int {
	list := []int{}
	for set := range 1 << n {
		if size(set) == k {
			list = append(list, set)
		}
	}
	return list
}

// some of the sets that are told: those whose place is in a number.
func some(all []int, code int) []int {
	var list []int
	for place, set := range all {
		if code>>place&1 == 1 {
			list = append(list, set)
		}
	}
	return list
}

// drawn families of five and six points: few sets up to nearly all, and all of them.
func drawn(count int) []api.Family {
	families := []api.Family{samples.AllSets(5), samples.AllSets(6), family(6)}
	draw := new(samples.Draw)
	for i := range count {
		n := 5 + i%2
		var list []int
		for set := range 1 << n {
			if draw.Next(12) <= i/2%12 {
				list = append(list, set)
			}
		}
		families = append(families, family(n, list...))
	}
	return families
}

// even families, whose sets have as many points: all of up to four points, and of five and six many.
func even() []api.Family {
	var families []api.Family
	draw := new(samples.Draw)
	for n := range 7 {
		for k := range n + 1 {
			all := ofSize(n, k)
			codes := 1 << len(all)
			if codes <= 1<<10 {
				for code := range codes {
					families = append(families, family(n, some(all, code)...))
				}
				continue
			}
			for i := range 2000 {
				code := draw.Next(codes)
				if i%2 == 1 {
					code &= draw.Next(codes)
				}
				families = append(families, family(n, some(all, code)...))
			}
		}
	}
	return families
}

// grown families: drawn sets are taken while something is so of all that are.
func grown(count int, isSo func(f api.Family) bool) []api.Family {
	var families []api.Family
	draw := new(samples.Draw)
	for i := range count {
		n := 1 + i%6
		var list []int
		for range 60 {
			more := append(slices.Clone(list), draw.Next(1<<n))
			slices.Sort(more)
			more = slices.Compact(more)
			if isSo(family(n, more...)) {
				list = more
			}
		}
		families = append(families, family(n, list...))
	}
	return families
}

// tried families of all sizes and kinds.
func tried() []api.Family {
	families := slices.Concat(samples.SmallFamilies(), drawn(400), grown(120, plainAntichain), grown(120, plainCrossing))
	for i, f := range samples.Families(4) {
		if i%7 == 0 {
			families = append(families, f)
		}
	}
	for i, f := range even() {
		if i%5 == 0 {
			families = append(families, f)
		}
	}
	return families
}

// plainAntichain by the words of V1.
func plainAntichain(f api.Family) bool {
	for i, set := range f.Sets {
		for j, other := range f.Sets {
			if i != j && set|other == other {
				return false
			}
		}
	}
	return true
}

// plainCrossing by the words of V1.
func plainCrossing(f api.Family) bool {
	for _, set := range f.Sets {
		for _, other := range f.Sets {
			if set&other == 0 {
				return false
			}
		}
	}
	return true
}

// plainShattered by the words of V1: each part of each set is looked for.
func plainShattered(f api.Family) []int {
	list := []int{}
	for set := range 1 << f.N {
		all := true
		for part := range 1 << f.N {
			if part|set == set {
				all = all && slices.ContainsFunc(f.Sets, func(other int) bool { return other&set == part })
			}
		}
		if all {
			list = append(list, set)
		}
	}
	return list
}

// plainShadow by the words of V2: each point is taken from each set.
func plainShadow(f api.Family) []int {
	list := []int{}
	for _, set := range f.Sets {
		for point := range f.N {
			if set>>point&1 == 1 {
				list = append(list, set-1<<point)
			}
		}
	}
	slices.Sort(list)
	return slices.Compact(list)
}

// isEven: all sets have as many points.
func isEven(f api.Family) bool {
	for _, set := range f.Sets {
		if size(set) != size(f.Sets[0]) {
			return false
		}
	}
	return true
}

// shadowOf a family that has one.
func shadowOf(t *testing.T, f api.Family) []int {
	t.Helper()
	got, err := Shadow(f)
	if err != api.OK || got.N != f.N {
		t.Fatalf("Shadow(%v) = %v, error %d", f, got, err)
	}
	return got.Sets
}

// firstOf what is right.
func firstOf(t *testing.T, n, k, m int) api.Family {
	t.Helper()
	got, err := First(n, k, m)
	if err != api.OK || got.N != n || len(got.Sets) != m {
		t.Fatalf("First(%d, %d, %d) = %v, error %d", n, k, m, got, err)
	}
	return got
}

// cascadeOf and boundOf what is right.
func cascadeOf(t *testing.T, m, k int) ([]int, int) {
	t.Helper()
	cascade, err1 := Cascade(m, k)
	bound, err2 := Bound(m, k)
	if err1 != api.OK || err2 != api.OK {
		t.Fatalf("%d, %d: Cascade tells error %d, Bound error %d", m, k, err1, err2)
	}
	return cascade, bound
}

// chainsOf so many points.
func chainsOf(t *testing.T, n int) [][]int {
	t.Helper()
	got, err := Chains(n)
	if err != api.OK {
		t.Fatalf("Chains(%d): error %d", n, err)
	}
	return got
}

func TestV1AntichainAndCrossing(t *testing.T) {
	for _, c := range []struct {
		name                string
		f                   api.Family
		antichain, crossing bool
	}{
		{"nothing", api.Family{}, true, true},
		{"no sets", family(6), true, true},
		{"only that of no points", family(0, 0), true, false},
		{"that of no points, of six", family(6, 0), true, false},
		{"that of no points and another one", family(3, 0, 7), false, false},
		{"one point", family(1, 1), true, true},
		{"one set", family(6, 63), true, true},
		{"points", family(3, 1, 2, 4), true, false},
		{"two of three", family(3, 3, 5, 6), true, true},
		{"one within the other", family(3, 1, 3), false, true},
		{"three that share points two by two", family(4, 7, 9, 10), true, true},
		{"the third within the last", family(4, 7, 9, 10, 14), false, true},
		{"the first within the last alone", family(4, 3, 5, 6, 11), false, true},
		{"the last two", family(4, 5, 6, 8, 12), false, false},
		{"three of six", family(6, ofSize(6, 3)...), true, false},
		{"four of six", family(6, ofSize(6, 4)...), true, true},
		{"all sets", samples.AllSets(6), false, false},
		{"all with one point", family(2, 1, 3), false, true},
		{"a plane without its last line", family(6, 7, 25, 42, 52), true, true},
	} {
		if got, err := Antichain(c.f); err != api.OK || got != c.antichain {
			t.Errorf("%s: Antichain is %v, error %d", c.name, got, err)
		}
		if got, err := Crossing(c.f); err != api.OK || got != c.crossing {
			t.Errorf("%s: Crossing is %v, error %d", c.name, got, err)
		}
	}
}

func TestV1Shattered(t *testing.T) {
	for _, c := range []struct {
		name string
		f    api.Family
		want []int
	}{
		{"nothing", api.Family{}, nil},
		{"no sets", family(6), nil},
		{"only that of no points", family(0, 0), []int{0}},
		{"one set", family(3, 5), []int{0}},
		{"points", family(3, 1, 2, 4), []int{0, 1, 2, 4}},
		{"one within the other", family(3, 1, 3), []int{0, 2}},
		{"all sets", samples.AllSets(2), []int{0, 1, 2, 3}},
		{"all but one", family(2, 0, 1, 3), []int{0, 1, 2}},
		{"a chain", family(3, 0, 1, 3, 7), []int{0, 1, 2, 4}},
		{"what differs in two points", family(3, 0, 3, 5, 6), []int{0, 1, 2, 3, 4, 5, 6}},
		{"all sets of six points", samples.AllSets(6), samples.AllSets(6).Sets},
	} {
		if got, err := Shattered(c.f); err != api.OK || got.N != c.f.N || !slices.Equal(got.Sets, c.want) {
			t.Errorf("%s: %v, error %d, want %v", c.name, got, err, c.want)
		}
	}
}

func TestV1ByItsWords(t *testing.T) {
	antichains, crossings, shattered := map[bool]int{}, map[bool]int{}, map[int]int{}
	for _, f := range tried() {
		if got, err := Antichain(f); err != api.OK || got != plainAntichain(f) {
			t.Fatalf("Antichain(%v) = %v, error %d", f, got, err)
		}
		if got, err := Crossing(f); err != api.OK || got != plainCrossing(f) {
			t.Fatalf("Crossing(%v) = %v, error %d", f, got, err)
		}
		got, err := Shattered(f)
		if want := plainShattered(f); err != api.OK || got.N != f.N || !slices.Equal(got.Sets, want) {
			t.Fatalf("Shattered(%v) = %v, error %d, want %v", f, got, err, want)
		}
		antichains[plainAntichain(f)]++
		crossings[plainCrossing(f)]++
		shattered[len(got.Sets)]++
	}
	if antichains[true] < 500 || antichains[false] < 5000 || crossings[true] < 500 || crossings[false] < 5000 || len(shattered) < 40 {
		t.Errorf("of each kind: %v, %v, %v", antichains, crossings, shattered)
	}
}

func TestV1HowManyThereAre(t *testing.T) {
	// How many antichains and how many crossing families there are is well known.
	for n, want := range [][2]int{{2, 1}, {3, 2}, {6, 6}, {20, 40}, {168, 1376}} {
		count := [2]int{}
		for _, f := range samples.Families(n) {
			if is, err := Antichain(f); err == api.OK && is {
				count[0]++
			}
			if is, err := Crossing(f); err == api.OK && is {
				count[1]++
			}
		}
		if count != want {
			t.Errorf("%d points: %v, want %v", n, count, want)
		}
	}
}

func TestV2Shadow(t *testing.T) {
	for _, c := range []struct {
		name string
		f    api.Family
		want []int
		err  api.Errno
	}{
		{"nothing", api.Family{}, nil, api.OK},
		{"no sets", family(6), nil, api.OK},
		{"only that of no points", family(0, 0), nil, api.OK},
		{"that of no points, of six", family(6, 0), nil, api.OK},
		{"one point", family(3, 4), []int{0}, api.OK},
		{"points", family(3, 1, 2, 4), []int{0}, api.OK},
		{"two of three", family(3, 3, 5, 6), []int{1, 2, 4}, api.OK},
		{"one pair", family(6, 33), []int{1, 32}, api.OK},
		{"all points", family(6, 63), []int{31, 47, 55, 59, 61, 62}, api.OK},
		{"two that share one", family(4, 7, 11), []int{3, 5, 6, 9, 10}, api.OK},
		{"one more", family(3, 1, 3), nil, api.ErrState},
		{"that of no points and another one", family(3, 0, 4), nil, api.ErrState},
		{"the last one", family(4, 3, 5, 9, 15), nil, api.ErrState},
		{"the first one", family(4, 1, 3, 5, 9), nil, api.ErrState},
		{"one in the middle", family(4, 3, 4, 5), nil, api.ErrState},
		{"all sets", samples.AllSets(6), nil, api.ErrState},
	} {
		n := c.f.N
		if c.err != api.OK {
			n = 0
		}
		if got, err := Shadow(c.f); err != c.err || got.N != n || !slices.Equal(got.Sets, c.want) {
			t.Errorf("%s: %v, error %d, want %v", c.name, got, err, c.want)
		}
	}
}

func TestV2ShadowByItsWords(t *testing.T) {
	count := map[bool]int{}
	for _, f := range slices.Concat(tried(), even()) {
		got, err := Shadow(f)
		count[isEven(f)]++
		if !isEven(f) {
			if err != api.ErrState || got.N != 0 || got.Sets != nil {
				t.Fatalf("Shadow(%v) = %v, error %d", f, got, err)
			}
			continue
		}
		if want := plainShadow(f); err != api.OK || got.N != f.N || !slices.Equal(got.Sets, want) {
			t.Fatalf("Shadow(%v) = %v, error %d, want %v", f, got, err, want)
		}
	}
	if count[true] < 5000 || count[false] < 5000 {
		t.Errorf("of each kind: %v", count)
	}
}

func TestV2First(t *testing.T) {
	for n := range api.MaxGround + 1 {
		for k := range n + 1 {
			all := ofSize(n, k)
			for m := range len(all) + 1 {
				if got := firstOf(t, n, k, m); !slices.Equal(got.Sets, all[:m]) {
					t.Errorf("First(%d, %d, %d) = %v, want %v", n, k, m, got, all[:m])
				}
			}
		}
	}
}

func TestV2FirstOfWhatMayNotBe(t *testing.T) {
	refused := func(n, k, m int, want api.Errno) {
		t.Helper()
		if got, err := First(n, k, m); err != want || got.N != 0 || got.Sets != nil {
			t.Errorf("First(%d, %d, %d) = %v, error %d, want error %d", n, k, m, got, err, want)
		}
	}
	for _, n := range []int{-1, 7, 10, 64, math.MaxInt, math.MinInt} {
		for _, k := range []int{0, 1, -1, 8, math.MaxInt} {
			for _, m := range []int{0, 1, -1, math.MaxInt} {
				refused(n, k, m, api.ErrMany)
			}
		}
	}
	for n := range api.MaxGround + 1 {
		for _, k := range []int{-1, n + 1, n + 2, math.MaxInt, math.MinInt} {
			for _, m := range []int{0, 1, -1, math.MaxInt} {
				refused(n, k, m, api.ErrRange)
			}
		}
		for k := range n + 1 {
			for _, m := range []int{-1, choose(n, k) + 1, choose(n, k) + 2, math.MaxInt, math.MinInt} {
				refused(n, k, m, api.ErrRange)
			}
		}
	}
}

// plainBinomial by the words of chapter 21.
func plainBinomial(n, k int) int {
	over, under := 1, 1
	for i := range k {
		over *= n - i
		under *= i + 1
	}
	return over / under
}

func TestV3CascadeAndBound(t *testing.T) {
	for _, c := range []struct {
		m, k    int
		cascade []int
		bound   int
	}{
		{0, 1, nil, 0},
		{0, 6, nil, 0},
		{1, 1, []int{1}, 1},
		{1, 6, []int{6}, 6},
		{4, 3, []int{4}, 6},
		{5, 3, []int{4, 2}, 8},
		{6, 3, []int{4, 2, 1}, 9},
		{6, 6, []int{6, 5, 4, 3, 2, 1}, 21},
		{20, 3, []int{6}, 15},
		{19, 3, []int{5, 4, 3}, 15},
		{1000, 1, []int{1000}, 1},
		{1000, 2, []int{45, 10}, 46},
		{1000, 3, []int{19, 8, 3}, 180},
		{1000, 6, []int{12, 8, 6, 4, 2}, 792 + 70 + 20 + 6 + 2},
		{999, 6, []int{12, 8, 6, 4}, 792 + 70 + 20 + 6},
	} {
		if cascade, bound := cascadeOf(t, c.m, c.k); !slices.Equal(cascade, c.cascade) || bound != c.bound {
			t.Errorf("%d, %d: %v and %d, want %v and %d", c.m, c.k, cascade, bound, c.cascade, c.bound)
		}
	}
}

func TestV3ByItsWords(t *testing.T) {
	for m := range 1001 {
		for k := 1; k <= api.MaxGround; k++ {
			cascade, bound := cascadeOf(t, m, k)
			left, want := m, 0
			for place, a := range cascade {
				under := k - place
				if a < under || under < 1 || left == 0 || place > 0 && a >= cascade[place-1] {
					t.Fatalf("Cascade(%d, %d) = %v", m, k, cascade)
				}
				if plainBinomial(a, under) > left || plainBinomial(a+1, under) <= left {
					t.Fatalf("Cascade(%d, %d) = %v: %d is not as great as it may be", m, k, cascade, a)
				}
				left -= plainBinomial(a, under)
				want += plainBinomial(a, under-1)
			}
			if left != 0 || bound != want {
				t.Fatalf("Cascade(%d, %d) = %v: %d is left; Bound is %d, want %d", m, k, cascade, left, bound, want)
			}
		}
	}
}

func TestV3NumbersThatMayNotBe(t *testing.T) {
	refused := func(m, k int) {
		t.Helper()
		if got, err := Cascade(m, k); err != api.ErrRange || got != nil {
			t.Errorf("Cascade(%d, %d) = %v, error %d", m, k, got, err)
		}
		if got, err := Bound(m, k); err != api.ErrRange || got != 0 {
			t.Errorf("Bound(%d, %d) = %v, error %d", m, k, got, err)
		}
	}
	for _, m := range []int{-1, 1001, 1 << 40, math.MaxInt, math.MinInt} {
		for k := -1; k <= 7; k++ {
			refused(m, k)
		}
	}
	for _, k := range []int{0, -1, 7, 1 << 40, math.MaxInt, math.MinInt} {
		for _, m := range []int{0, 1, 7, 1000} {
			refused(m, k)
		}
	}
}

func TestV4Chains(t *testing.T) {
	for n, want := range [][][]int{
		{{0}},
		{{0, 1}},
		{{0, 1, 3}, {2}},
		{{0, 1, 3, 7}, {2, 6}, {4, 5}},
		{{0, 1, 3, 7, 15}, {2, 6, 14}, {4, 5, 13}, {8, 9, 11}, {10}, {12}},
	} {
		if got := chainsOf(t, n); !reflect.DeepEqual(got, want) {
			t.Errorf("Chains(%d) = %v, want %v", n, got, want)
		}
	}
	for _, n := range []int{-1, 7, 10, 62, 63, 64, math.MaxInt, math.MinInt} {
		if got, err := Chains(n); err != api.ErrMany || got != nil {
			t.Errorf("Chains(%d) = %v, error %d", n, got, err)
		}
	}
}

// partners by the words of V4: of each point that with which it goes, or -1.
func partners(n, set int) [6]int {
	with := [6]int{-1, -1, -1, -1, -1, -1}
	for point := range n {
		if set>>point&1 == 0 {
			continue
		}
		for ahead := point - 1; ahead >= 0; ahead-- {
			if set>>ahead&1 == 0 && with[ahead] < 0 {
				with[point], with[ahead] = ahead, point
				break
			}
		}
	}
	return with
}

func TestV4ByItsWords(t *testing.T) {
	for n := range api.MaxGround + 1 {
		var want [][]int
		place := map[[6]int]int{}
		for _, k := range slices.Sorted(slices.Values(byPoints(n))) {
			set := k % 64
			at, met := place[partners(n, set)]
			if !met {
				at = len(want)
				place[partners(n, set)] = at
				want = append(want, nil)
			}
			want[at] = append(want[at], set)
		}
		slices.SortFunc(want, func(a, b []int) int { return a[0] - b[0] })
		if got := chainsOf(t, n); !reflect.DeepEqual(got, want) {
			t.Errorf("Chains(%d) = %v, want %v", n, got, want)
		}
	}
}

// byPoints: all sets, with 64 times how many points they have, so that sorted they go by these first.
func byPoints(n int) []int {
	var list []int
	for set := range 1 << n {
		list = append(list, 64*size(set)+set)
	}
	return list
}

func TestV4EachSetOnceAndEachChainAcrossTheMiddle(t *testing.T) {
	for n := range api.MaxGround + 1 {
		met := 0
		for _, chain := range chainsOf(t, n) {
			for i, set := range chain {
				if i > 0 && (chain[i-1]&^set != 0 || size(set) != size(chain[i-1])+1) {
					t.Errorf("%d points: %v has no step at %d", n, chain, i)
				}
				met++
			}
			if size(chain[0])+size(chain[len(chain)-1]) != n {
				t.Errorf("%d points: %v is not across the middle", n, chain)
			}
		}
		if met != 1<<n {
			t.Errorf("%d points: %d sets", n, met)
		}
	}
}

// factorial: all ways to count through n points.
func factorial(n int) int {
	if n == 0 {
		return 1
	}
	return n * factorial(n-1)
}

func TestV5SpernerAndLubell(t *testing.T) {
	full := map[int]int{}
	families := slices.Concat(tried(), even())
	for n := range api.MaxGround + 1 {
		chains := chainsOf(t, n)
		if len(chains) != choose(n, n/2) {
			t.Errorf("%d points: %d chains", n, len(chains))
		}
		for _, f := range families {
			is, err := Antichain(f)
			if err != api.OK || f.N != n || !is {
				continue
			}
			ways := 0
			for _, set := range f.Sets {
				ways += factorial(size(set)) * factorial(n-size(set))
			}
			if len(f.Sets) > len(chains) || ways > factorial(n) {
				t.Fatalf("%v has %d sets, with %d ways", f, len(f.Sets), ways)
			}
			if ways == factorial(n) {
				full[n]++
			}
		}
	}
	if len(full) != 7 {
		t.Errorf("that have all ways: %v", full)
	}
}

func TestV5KruskalAndKatona(t *testing.T) {
	least, more := 0, 0
	for _, f := range even() {
		if len(f.Sets) == 0 || f.Sets[0] == 0 {
			continue
		}
		k := size(f.Sets[0])
		_, bound := cascadeOf(t, len(f.Sets), k)
		first := shadowOf(t, firstOf(t, f.N, k, len(f.Sets)))
		if got := len(shadowOf(t, f)); len(first) != bound || got < bound {
			t.Fatalf("%v: a shadow of %d, of the first as many %d; Bound is %d", f, got, len(first), bound)
		} else if got == bound {
			least++
		} else {
			more++
		}
	}
	if least < 1000 || more < 1000 {
		t.Errorf("%d have as few as may be, %d more", least, more)
	}
}

func TestV5ErdosKoAndRado(t *testing.T) {
	full := map[[2]int]int{}
	for _, f := range slices.Concat(even(), stars()) {
		if len(f.Sets) == 0 || 2*size(f.Sets[0]) > f.N {
			continue
		}
		n, k := f.N, size(f.Sets[0])
		is, err := Crossing(f)
		if err != api.OK || is && len(f.Sets) > choose(n-1, k-1) {
			t.Fatalf("%v crosses, but has %d sets, error %d", f, len(f.Sets), err)
		}
		if is && len(f.Sets) == choose(n-1, k-1) {
			full[[2]int{n, k}]++
		}
	}
	if len(full) != 9 {
		t.Errorf("that have as many as may be: %v", full)
	}
}

// stars: all sets of k points that have one point, and these with drawn ones more or in place of others.
func stars() []api.Family {
	draw := new(samples.Draw)
	var families []api.Family
	for n := 2; n <= 6; n++ {
		for k := 1; 2*k <= n; k++ {
			for i := range 40 {
				all := ofSize(n, k)
				var list []int
				for _, set := range all {
					if set>>(i%n)&1 == 1 && (i < n || draw.Next(5) > 0) || i >= n && draw.Next(8) == 0 {
						list = append(list, set)
					}
				}
				families = append(families, family(n, list...))
			}
		}
	}
	return families
}

func TestV5PajorSauerAndShelah(t *testing.T) {
	same, more := 0, 0
	for _, f := range tried() {
		got, err := Shattered(f)
		if err != api.OK || len(got.Sets) < len(f.Sets) {
			t.Fatalf("Shattered(%v) = %v, error %d", f, got, err)
		}
		if len(got.Sets) == len(f.Sets) {
			same++
		} else {
			more++
		}
	}
	if same < 500 || more < 500 {
		t.Errorf("as many: %d, more: %d", same, more)
	}
}

// isRefused: all calls of a family tell the error, and nothing else.
func isRefused(t *testing.T, f api.Family, want api.Errno) {
	t.Helper()
	if got, err := Antichain(f); err != want || got {
		t.Errorf("Antichain(%v) = %v, error %d, want error %d", f, got, err, want)
	}
	if got, err := Crossing(f); err != want || got {
		t.Errorf("Crossing(%v) = %v, error %d, want error %d", f, got, err, want)
	}
	if got, err := Shadow(f); err != want || got.N != 0 || got.Sets != nil {
		t.Errorf("Shadow(%v) = %v, error %d, want error %d", f, got, err, want)
	}
	if got, err := Shattered(f); err != want || got.N != 0 || got.Sets != nil {
		t.Errorf("Shattered(%v) = %v, error %d, want error %d", f, got, err, want)
	}
}

func TestQ1CheckIsToldFirst(t *testing.T) {
	for _, w := range samples.WrongFamilies() {
		isRefused(t, w.Family, w.Err)
	}
	for n := 7; n <= 10; n++ {
		for _, right := range []api.Family{family(n), family(n, 0), family(n, 1, 2), family(n, 1<<n-1), family(n, 1, 3), samples.AllSets(n)} {
			isRefused(t, right, api.ErrMany)
		}
		isRefused(t, family(n, 1<<n), api.ErrRange)
		isRefused(t, family(n, 3, -1), api.ErrRange)
		isRefused(t, family(n, 3, 3), api.ErrTwice)
		isRefused(t, family(n, 3, 1), api.ErrTwice)
	}
}

func TestP2P3OnlyReadAndTheSameEachTime(t *testing.T) {
	for _, one := range []api.Family{family(0), family(0, 0), family(6, ofSize(6, 3)...), family(5, 3, 5, 6), family(6, 63)} {
		list, room := samples.Roomy(one.Sets...)
		before := slices.Clone(room)
		f := api.Family{N: one.N, Sets: list}
		for range 3 {
			antichain, _ := Antichain(f)
			crossing, _ := Crossing(f)
			shadow := shadowOf(t, f)
			shattered, _ := Shattered(f)
			if antichain != plainAntichain(one) || crossing != plainCrossing(one) || !slices.Equal(shadow, plainShadow(one)) || !slices.Equal(shattered.Sets, plainShattered(one)) {
				t.Fatalf("%v: %v, %v, %v, %v", one, antichain, crossing, shadow, shattered)
			}
			if samples.Shared(shadow, shattered.Sets, list) || !slices.Equal(before, room) {
				t.Fatalf("%v was changed, or is shared", one)
			}
			samples.Spoil(shadow)
			samples.Spoil(shattered.Sets)
		}
	}
}

func TestP2P3ListsAreNewEachTime(t *testing.T) {
	for range 3 {
		first := firstOf(t, 6, 3, 10)
		other := firstOf(t, 6, 3, 20)
		cascade, _ := cascadeOf(t, 19, 3)
		if !slices.Equal(first.Sets, ofSize(6, 3)[:10]) || !slices.Equal(cascade, []int{5, 4, 3}) || samples.Shared(first.Sets, other.Sets, cascade) {
			t.Fatalf("%v, %v, %v", first, other, cascade)
		}
		chains := chainsOf(t, 6)
		if len(chains) != 20 || !slices.Equal(chains[4], []int{10, 26, 58}) || samples.Shared(chains...) {
			t.Fatalf("%v", chains)
		}
		for _, list := range append(chains, first.Sets, cascade) {
			samples.Spoil(list)
		}
	}
}

func TestP3AskedByManyAtOnce(t *testing.T) {
	f := family(6, ofSize(6, 3)...)
	want := plainShattered(f)
	var group sync.WaitGroup
	wrong := make([]bool, 50)
	for i := range wrong {
		group.Go(func() {
			got, err := Shattered(f)
			is, err2 := Antichain(f)
			wrong[i] = err != api.OK || err2 != api.OK || !is || !slices.Equal(got.Sets, want)
		})
	}
	group.Wait()
	if slices.Contains(wrong, true) {
		t.Errorf("who was told something else: %v", wrong)
	}
}
