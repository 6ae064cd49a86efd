package imply

import (
	"math"
	"slices"
	"testing"

	"hasse/api"
	"hasse/concept"
	"hasse/samples"
)

func rule(has, then int) api.Rule { return api.Rule{If: has, Then: then} }

// rules told in pairs of sets.
func rules(numbers ...int) []api.Rule {
	var l []api.Rule
	for i := 0; i < len(numbers); i += 2 {
		l = append(l, rule(numbers[i], numbers[i+1]))
	}
	return l
}

// hasAll: a set has all of another one.
func hasAll(set, part int) bool { return set|part == set }

// plainObeys by the chapter's words.
func plainObeys(set int, r api.Rule) bool { return !hasAll(set, r.If) || hasAll(set, r.Then) }

// plainClosed: all sets that obey all rules, rising.
func plainClosed(n int, l []api.Rule) []int {
	var closed []int
	for set := range 1 << n {
		if !slices.ContainsFunc(l, func(r api.Rule) bool { return !plainObeys(set, r) }) {
			closed = append(closed, set)
		}
	}
	return closed
}

// plainCloses: of each set the least one of some that has all of it, which must be there.
func plainCloses(t *testing.T, n int, closed []int) []int {
	t.Helper()
	closes := make([]int, 1<<n)
	for set := range closes {
		least := -1
		for _, other := range closed {
			if !hasAll(other, set) {
				continue
			}
			if least < 0 {
				least = other
			}
			if !hasAll(other, least) {
				t.Fatalf("%d has no least one of %v", set, closed)
			}
		}
		closes[set] = least
	}
	return closes
}

// plainKeys by the words of P1, of what each set closes to.
func plainKeys(n int, closes []int) []int {
	all := 1<<n - 1
	var keys []int
	for set := range closes {
		is := closes[set] == all
		for mark := range n {
			if hasAll(set, 1<<mark) {
				is = is && closes[set-1<<mark] != all
			}
		}
		if is {
			keys = append(keys, set)
		}
	}
	return keys
}

// plainBase by the words of P2: of each set all that are less are asked, one by one.
func plainBase(closes []int) []api.Rule {
	var base []api.Rule
	skew := make([]bool, len(closes))
	for set := range closes {
		skew[set] = closes[set] != set
		for less := range set {
			if skew[less] && hasAll(set, less) {
				skew[set] = skew[set] && hasAll(set, closes[less])
			}
		}
		if skew[set] {
			base = append(base, rule(set, closes[set]))
		}
	}
	return base
}

// trial: rules of n marks.
type trial struct {
	n int
	l []api.Rule
}

// allRules of n marks.
func allRules(n int) []api.Rule {
	var l []api.Rule
	for has := range 1 << n {
		for then := range 1 << n {
			l = append(l, rule(has, then))
		}
	}
	return l
}

// small trials: all lists of up to two rules of up to three marks.
func small() []trial {
	var trials []trial
	for n := range 4 {
		trials = append(trials, trial{n, nil})
		for _, first := range allRules(n) {
			trials = append(trials, trial{n, []api.Rule{first}})
			for _, second := range allRules(n) {
				trials = append(trials, trial{n, []api.Rule{first, second}})
			}
		}
	}
	return trials
}

// great trials: drawn ones, up to as many rules and marks as there may be; with many marks in If, few sets have all of them.
func great() []trial {
	draw := new(samples.Draw)
	drawn := func(n, size int) int {
		set := 0
		for range size {
			set |= 1 << draw.Next(n)
		}
		return set
	}
	var trials []trial
	for i := range 200 {
		n := 4 + draw.Next(7)
		c := trial{n: n}
		for range draw.Next(61) {
			c.l = append(c.l, rule(drawn(n, 1+i%7), drawn(n, draw.Next(3))))
		}
		trials = append(trials, c)
	}
	full := make([]api.Rule, 0, 60)
	for len(full) < 60 {
		full = append(full, rule(drawn(10, 6), drawn(10, 1)))
	}
	return append(trials, trial{10, full}, trial{10, nil}, trial{10, make([]api.Rule, 60)}, trial{10, rules(0, 1023)}, trial{10, rules(1023, 0)}, trial{10, stairs()}, trial{10, anyTwo()})
}

// stairs: each mark has the next one, told from the last rule on, so that each of them must be looked at again and again.
func stairs() []api.Rule {
	var l []api.Rule
	for mark := 8; mark >= 0; mark-- {
		l = append(l, rule(1<<mark, 2<<mark))
	}
	return l
}

// anyTwo marks have all.
func anyTwo() []api.Rule {
	var l []api.Rule
	for first := range 10 {
		for second := range first {
			l = append(l, rule(1<<first+1<<second, 1023))
		}
	}
	return l
}

func tried() []trial { return append(small(), great()...) }

// wrong rules, and what is wrong with them.
type wrong struct {
	n    int
	l    []api.Rule
	want api.Errno
}

func wrongs() []wrong {
	all := []wrong{
		{4, make([]api.Rule, 61), api.ErrMany},
		{4, make([]api.Rule, 1000), api.ErrMany},
		{0, slices.Repeat(rules(-1, 1), 61), api.ErrMany},
		{10, slices.Repeat(rules(1024, 0), 61), api.ErrMany},
		{0, rules(1, 0), api.ErrRange},
		{0, rules(0, 1), api.ErrRange},
		{10, rules(1023, 1024), api.ErrRange},
		{4, append(make([]api.Rule, 59), rule(0, 16)), api.ErrRange},
	}
	for _, n := range []int{-1, 11, 64, math.MaxInt, math.MinInt} {
		all = append(all, wrong{n, nil, api.ErrMany}, wrong{n, rules(-1, 0), api.ErrMany}, wrong{n, rules(0, 0), api.ErrMany})
	}
	for _, set := range []int{-1, 8, 15, 1 << 40, math.MaxInt, math.MinInt} {
		all = append(all, wrong{3, rules(set, 0), api.ErrRange}, wrong{3, rules(0, set), api.ErrRange}, wrong{3, rules(1, 2, 7, 0, 5, set), api.ErrRange}, wrong{3, rules(set, 0, 1, 2), api.ErrRange})
	}
	return all
}

func TestP1Check(t *testing.T) {
	for _, c := range tried() {
		if err := Check(c.n, c.l); err != api.OK {
			t.Fatalf("Check(%d, %v) = %d", c.n, c.l, err)
		}
	}
	for _, c := range []trial{{0, nil}, {0, []api.Rule{}}, {0, make([]api.Rule, 60)}, {10, nil}, {10, rules(1023, 1023)}} {
		if err := Check(c.n, c.l); err != api.OK {
			t.Errorf("Check(%d, %v) = %d", c.n, c.l, err)
		}
	}
	for _, w := range wrongs() {
		if err := Check(w.n, w.l); err != w.want {
			t.Errorf("Check(%d, %v) = %d, want %d", w.n, w.l, err, w.want)
		}
	}
}

func TestP1AllOthersTellCheckFirst(t *testing.T) {
	for _, w := range wrongs() {
		for _, set := range []int{0, 1, -1, 1 << 20, math.MaxInt, math.MinInt} {
			if got, err := Close(w.n, w.l, set); err != w.want || got != 0 {
				t.Errorf("Close(%d, %v, %d) = %d, error %d, want error %d", w.n, w.l, set, got, err, w.want)
			}
			for _, r := range []api.Rule{rule(set, 0), rule(0, set)} {
				if got, err := Follows(w.n, w.l, r); err != w.want || got {
					t.Errorf("Follows(%d, %v, %v) = %v, error %d, want error %d", w.n, w.l, r, got, err, w.want)
				}
			}
		}
		if got, err := Keys(w.n, w.l); err != w.want || got != nil {
			t.Errorf("Keys(%d, %v) = %v, error %d, want error %d", w.n, w.l, got, err, w.want)
		}
		if got, err := Base(w.n, w.l); err != w.want || got != nil {
			t.Errorf("Base(%d, %v) = %v, error %d, want error %d", w.n, w.l, got, err, w.want)
		}
	}
}

func TestP1Close(t *testing.T) {
	for _, w := range []struct {
		name      string
		n         int
		l         []api.Rule
		set, want int
	}{
		{"no marks", 0, nil, 0, 0},
		{"no marks, but a rule", 0, rules(0, 0), 0, 0},
		{"no rules", 4, nil, 5, 5},
		{"one rule", 2, rules(1, 2), 1, 3},
		{"one rule, of another mark", 2, rules(1, 2), 2, 2},
		{"not all of If", 3, rules(3, 4), 1, 1},
		{"all of If", 3, rules(3, 4), 3, 7},
		{"of no marks", 3, rules(0, 4), 0, 4},
		{"of no marks, then more", 3, rules(4, 2, 0, 4), 0, 6},
		{"one after the other", 10, stairs(), 1, 1023},
		{"one after the other, from the middle", 10, stairs(), 32, 992},
		{"two together", 4, rules(1, 4, 2, 8, 12, 16-1), 3, 15},
		{"of itself", 4, rules(3, 3), 3, 3},
	} {
		if got, err := Close(w.n, w.l, w.set); err != api.OK || got != w.want {
			t.Errorf("%s: %d, error %d, want %d", w.name, got, err, w.want)
		}
	}
}

func TestP1CloseByItsWords(t *testing.T) {
	for _, c := range tried() {
		for set, want := range plainCloses(t, c.n, plainClosed(c.n, c.l)) {
			if got, err := Close(c.n, c.l, set); err != api.OK || got != want {
				t.Fatalf("Close(%d, %v, %d) = %d, error %d, want %d", c.n, c.l, set, got, err, want)
			}
		}
	}
}

func TestP1WhatIsNoMark(t *testing.T) {
	for _, c := range tried() {
		for _, set := range []int{-1, -2, 1 << c.n, 1<<c.n + 1, 1 << 40, math.MaxInt, math.MinInt} {
			if got, err := Close(c.n, c.l, set); err != api.ErrRange || got != 0 {
				t.Fatalf("Close(%d, %v, %d) = %d, error %d", c.n, c.l, set, got, err)
			}
			for _, r := range []api.Rule{rule(set, 0), rule(0, set), rule(set, set)} {
				if got, err := Follows(c.n, c.l, r); err != api.ErrRange || got {
					t.Fatalf("Follows(%d, %v, %v) = %v, error %d", c.n, c.l, r, got, err)
				}
			}
		}
	}
}

func TestP1Follows(t *testing.T) {
	for _, w := range []struct {
		name string
		n    int
		l    []api.Rule
		r    api.Rule
		want bool
	}{
		{"no marks", 0, nil, rule(0, 0), true},
		{"what it has", 3, nil, rule(5, 4), true},
		{"what it has not", 3, nil, rule(5, 2), false},
		{"nothing", 3, nil, rule(0, 0), true},
		{"from nothing", 3, nil, rule(0, 1), false},
		{"a rule of them", 3, rules(1, 2), rule(1, 2), true},
		{"with more in If", 3, rules(1, 2), rule(5, 2), true},
		{"with less in Then", 3, rules(1, 6), rule(1, 2), true},
		{"with less in If", 3, rules(3, 4), rule(1, 4), false},
		{"with more in Then", 3, rules(1, 2), rule(1, 6), false},
		{"the other way round", 3, rules(1, 2), rule(2, 1), false},
		{"one after the other", 3, rules(2, 4, 1, 2), rule(1, 4), true},
		{"both together", 3, rules(1, 2, 1, 4), rule(1, 6), true},
		{"all of it, from the first on", 10, stairs(), rule(1, 1023), true},
		{"all of it, from the second on", 10, stairs(), rule(2, 1023), false},
	} {
		if got, err := Follows(w.n, w.l, w.r); err != api.OK || got != w.want {
			t.Errorf("%s: %v, error %d", w.name, got, err)
		}
	}
}

// askedRules: all of few marks; of many ones drawn rules, and rules of what sets close to, with a mark more.
func askedRules(n int, closes []int, draw *samples.Draw) []api.Rule {
	if n <= 2 {
		return allRules(n)
	}
	l := rules(0, 0, 0, 1<<n-1, 1<<n-1, 0)
	for range 20 {
		set := draw.Next(1 << n)
		l = append(l, rule(set, draw.Next(1<<n)), rule(set, closes[set]), rule(set, closes[set]&draw.Next(1<<n)), rule(set, closes[set]|1<<draw.Next(n)))
	}
	return l
}

func TestP1FollowsByItsWords(t *testing.T) {
	draw := new(samples.Draw)
	count := map[bool]int{}
	for _, c := range tried() {
		closed := plainClosed(c.n, c.l)
		for _, r := range askedRules(c.n, plainCloses(t, c.n, closed), draw) {
			want := true
			for _, set := range closed {
				want = want && plainObeys(set, r)
			}
			if got, err := Follows(c.n, c.l, r); err != api.OK || got != want {
				t.Fatalf("Follows(%d, %v, %v) = %v, error %d", c.n, c.l, r, got, err)
			}
			count[want]++
		}
	}
	if count[true] < 10000 || count[false] < 10000 {
		t.Errorf("too few were asked: %v", count)
	}
}

func TestP1Keys(t *testing.T) {
	for _, w := range []struct {
		name string
		n    int
		l    []api.Rule
		want []int
	}{
		{"no marks", 0, nil, []int{0}},
		{"no rules", 4, nil, []int{15}},
		{"no rules, all marks", 10, nil, []int{1023}},
		{"all from nothing", 4, rules(0, 15), []int{0}},
		{"one rule", 4, rules(1, 2), []int{13}},
		{"a ring", 3, rules(1, 2, 2, 4, 4, 1), []int{1, 2, 4}},
		{"two and one", 3, rules(3, 4, 4, 3), []int{3, 4}},
		{"any two", 4, rules(3, 15, 5, 15, 9, 15, 6, 15, 10, 15, 12, 15), []int{3, 5, 6, 9, 10, 12}},
		{"one after the other", 10, stairs(), []int{1}},
	} {
		if got, err := Keys(w.n, w.l); err != api.OK || !slices.Equal(got, w.want) {
			t.Errorf("%s: %v, error %d, want %v", w.name, got, err, w.want)
		}
	}
}

func TestP1KeysByTheirWords(t *testing.T) {
	most := 0
	for _, c := range tried() {
		want := plainKeys(c.n, plainCloses(t, c.n, plainClosed(c.n, c.l)))
		if got, err := Keys(c.n, c.l); err != api.OK || !slices.Equal(got, want) {
			t.Fatalf("Keys(%d, %v) = %v, error %d, want %v", c.n, c.l, got, err, want)
		}
		most = max(most, len(want))
	}
	if most < 20 {
		t.Errorf("at most %d keys", most)
	}
}

func TestP2Base(t *testing.T) {
	for _, w := range []struct {
		name    string
		n       int
		l, want []api.Rule
	}{
		{"no marks", 0, rules(0, 0), nil},
		{"no rules", 10, nil, nil},
		{"rules that say nothing", 3, rules(7, 1, 3, 2, 0, 0), nil},
		{"one rule", 2, rules(1, 2), rules(1, 3)},
		{"the same twice", 2, rules(1, 2, 1, 2), rules(1, 3)},
		{"of nothing", 3, rules(0, 1), rules(0, 1)},
		{"of nothing, then of more", 3, rules(0, 1, 2, 4), rules(0, 1, 3, 7)},
		{"one after the other", 3, rules(1, 2, 2, 4), rules(1, 7, 2, 6)},
		{"a ring", 3, rules(1, 2, 2, 4, 4, 1), rules(1, 7, 2, 7, 4, 7)},
		{"what follows is left out", 3, rules(1, 2, 5, 2, 3, 1), rules(1, 3)},
		{"one that has what a lesser one closes to", 4, rules(1, 2, 3|4, 8), rules(1, 3, 7, 15)},
		{"rising, not as they came", 3, rules(4, 1, 2, 1), rules(2, 3, 4, 5)},
		{"any two", 3, rules(3, 7, 5, 7, 6, 7), rules(3, 7, 5, 7, 6, 7)},
	} {
		if got, err := Base(w.n, w.l); err != api.OK || !slices.Equal(got, w.want) {
			t.Errorf("%s: %v, error %d, want %v", w.name, got, err, w.want)
		}
	}
}

func TestP2BaseByItsWords(t *testing.T) {
	most := 0
	for _, c := range tried() {
		want := plainBase(plainCloses(t, c.n, plainClosed(c.n, c.l)))
		if got, err := Base(c.n, c.l); err != api.OK || !slices.Equal(got, want) {
			t.Fatalf("Base(%d, %v) = %v, error %d, want %v", c.n, c.l, got, err, want)
		}
		most = max(most, len(want))
	}
	if most < 45 {
		t.Errorf("at most %d rules in a base", most)
	}
}

// plainByThings: all sets of marks that are just what some things have in common.
func plainByThings(c api.Context) []int {
	var closed []int
	for set := range 1 << c.Marks {
		common := 1<<c.Marks - 1
		for _, has := range c.Has {
			if hasAll(has, set) {
				common &= has
			}
		}
		if common == set {
			closed = append(closed, set)
		}
	}
	return closed
}

func TestP3Of(t *testing.T) {
	for _, w := range []struct {
		name string
		c    api.Context
		want []api.Rule
	}{
		{"nothing", api.Context{}, nil},
		{"no things", samples.ContextOf(2), rules(0, 3)},
		{"no marks", samples.ContextOf(0, 0, 0), nil},
		{"a thing without its mark", samples.ContextOf(1, 0), nil},
		{"a thing with its mark", samples.ContextOf(1, 1), rules(0, 1)},
		{"two marks alike", samples.ContextOf(2, 0, 3), rules(1, 3, 2, 3)},
		{"each its own", samples.JustOne(3), rules(3, 7, 5, 7, 6, 7)},
		{"all but one", samples.AllButOne(10), nil},
		{"steps", samples.Steps(3), rules(2, 3, 4, 7)},
		{"some", samples.ContextOf(4, 3, 6, 7), rules(0, 2, 10, 15)},
		{"one thing", samples.ContextOf(4, 5), rules(0, 5, 7, 15, 13, 15)},
	} {
		if got, err := Of(w.c); err != api.OK || !slices.Equal(got, w.want) {
			t.Errorf("%s: %v, error %d, want %v", w.name, got, err, w.want)
		}
	}
}

func TestP3OfByItsWords(t *testing.T) {
	for _, c := range samples.SmallContexts() {
		// Those rules that all things obey, each of them.
		var obeyed []api.Rule
		for _, r := range allRules(c.Marks) {
			if !slices.ContainsFunc(c.Has, func(has int) bool { return !plainObeys(has, r) }) {
				obeyed = append(obeyed, r)
			}
		}
		want := plainBase(plainCloses(t, c.Marks, plainClosed(c.Marks, obeyed)))
		if got, err := Of(c); err != api.OK || !slices.Equal(got, want) {
			t.Fatalf("Of(%v) = %v, error %d, want %v", c, got, err, want)
		}
	}
}

func TestP3OfGreatContexts(t *testing.T) {
	most, many := 0, 0
	for _, c := range samples.GreatContexts(300) {
		closes := plainCloses(t, c.Marks, plainByThings(c))
		want, wantErr := plainBase(closes), api.OK
		if len(want) > api.MaxRules {
			want, wantErr = nil, api.ErrMany
			many++
		}
		l, err := Of(c)
		if err != wantErr || !slices.Equal(l, want) {
			t.Fatalf("Of(%v) = %v, error %d, want %v, error %d", c, l, err, want, wantErr)
		}
		most = max(most, len(l))
		if err != api.OK {
			continue
		}
		for set, want := range closes {
			things, _ := concept.Things(c, set)
			marks, _ := concept.Marks(c, things)
			if got, err := Close(c.Marks, l, set); err != api.OK || got != want || got != marks {
				t.Fatalf("%v: by %v Close of %d is %d, error %d, want %d, and its things have %d", c, l, set, got, err, want, marks)
			}
		}
	}
	if most < 60 || many < 1 {
		t.Errorf("at most %d rules, and %d times too many", most, many)
	}
}

// plane of eleven points and as many blocks of five, any two of which are in just two blocks; one point and one block are left out.
func plane(block, point int) api.Context {
	var has []int
	for b := range 11 {
		marks := 0
		for _, square := range []int{1, 3, 4, 5, 9} {
			p := (square + b) % 11
			if p == point {
				continue
			}
			if p > point {
				p--
			}
			marks |= 1 << p
		}
		if b != block {
			has = append(has, marks)
		}
	}
	return samples.ContextOf(10, has...)
}

func TestP3MaxRules(t *testing.T) {
	for _, w := range []struct {
		name  string
		c     api.Context
		count int
		want  api.Errno
	}{
		{"just as many", samples.Skew60(), 60, api.OK},
		{"one more", samples.Skew61(), 61, api.ErrMany},
		{"each its own", samples.JustOne(10), 45, api.OK},
		{"a plane, and a point that is not in the block", plane(0, 0), 70, api.ErrMany},
		{"a plane, and a point that is in the block", plane(0, 1), 86, api.ErrMany},
	} {
		if got := len(plainBase(plainCloses(t, w.c.Marks, plainByThings(w.c)))); got != w.count {
			t.Errorf("%s: %d, want %d", w.name, got, w.count)
		}
		l, err := Of(w.c)
		if err != w.want || err == api.OK && len(l) != w.count || err != api.OK && l != nil {
			t.Errorf("%s: %d rules, error %d, want error %d", w.name, len(l), err, w.want)
		}
	}
}

func TestP3WrongContexts(t *testing.T) {
	for _, w := range samples.WrongContexts() {
		if got, err := Of(w.Context); err != w.Err || got != nil {
			t.Errorf("Of(%v) = %v, error %d, want error %d", w.Context, got, err, w.Err)
		}
	}
}

func TestP3OfAndConceptsTellTheSameSets(t *testing.T) {
	for _, c := range samples.GreatContexts(100) {
		l, err := Of(c)
		if err != api.OK {
			continue
		}
		concepts, _ := concept.Concepts(c)
		var marks []int
		for _, concept := range concepts {
			marks = append(marks, concept[1])
		}
		slices.Sort(marks)
		if closed := plainClosed(c.Marks, l); !slices.Equal(closed, marks) {
			t.Fatalf("%v: %v are obeyed by %v, the concepts have %v", c, l, closed, marks)
		}
	}
}

func TestP4TheBaseSaysWhatTheRulesSay(t *testing.T) {
	for _, c := range tried() {
		base, err := Base(c.n, c.l)
		if err != api.OK || len(base) > len(c.l) {
			t.Fatalf("Base(%d, %v) = %v, error %d", c.n, c.l, base, err)
		}
		if want, got := plainClosed(c.n, c.l), plainClosed(c.n, base); !slices.Equal(got, want) {
			t.Fatalf("Base(%d, %v) = %v is obeyed by %v, not by %v", c.n, c.l, base, got, want)
		}
		for _, r := range base {
			if follows, err := Follows(c.n, c.l, r); err != api.OK || !follows {
				t.Fatalf("from %v of %d marks %v does not follow, error %d", c.l, c.n, r, err)
			}
		}
		for _, r := range c.l {
			if follows, err := Follows(c.n, base, r); err != api.OK || !follows {
				t.Fatalf("from the base %v of %d marks %v does not follow, error %d", base, c.n, r, err)
			}
		}
		if again, err := Base(c.n, base); err != api.OK || !slices.Equal(again, base) {
			t.Fatalf("the base %v of %d marks has the base %v, error %d", base, c.n, again, err)
		}
	}
	just, err := Of(samples.Skew60())
	if again, itsErr := Base(10, just); err != api.OK || itsErr != api.OK || len(again) != 60 || !slices.Equal(again, just) {
		t.Errorf("%v has the base %v, errors %d, %d", just, again, err, itsErr)
	}
}

// families of sets of n marks, told as numbers whose bit i is 1 if set i is in it, that have all marks, and what any two of them share: just those are the sets that obey some rules.
func families(n int) []int {
	var found []int
	all := 1<<n - 1
next:
	for family := range 1 << (all + 1) {
		if family>>all&1 == 0 {
			continue
		}
		for a := range all {
			for b := range a {
				if (family>>a)&(family>>b)&1 == 1 && family>>(a&b)&1 == 0 {
					continue next
				}
			}
		}
		found = append(found, family)
	}
	return found
}

// obeyedBy: the family of all sets that obey a rule.
func obeyedBy(n int, r api.Rule) int {
	family := 0
	for set := range 1 << n {
		if plainObeys(set, r) {
			family |= 1 << set
		}
	}
	return family
}

// canSay: do so many of some families have just one family in common?
func canSay(parts []int, want, count, common int) bool {
	if common == want {
		return true
	}
	for i := range parts {
		if count > 0 && canSay(parts[i+1:], want, count-1, common&parts[i]) {
			return true
		}
	}
	return false
}

func TestP4NoRulesThatSayItAreFewer(t *testing.T) {
	for n, count := range []int{1, 2, 7, 61, 2480} {
		all := families(n)
		if len(all) != count {
			t.Fatalf("%d families of %d marks", len(all), n)
		}
		for _, family := range all {
			var closed []int
			for set := range 1 << n {
				if family>>set&1 == 1 {
					closed = append(closed, set)
				}
			}
			// A rule that all of them obey says no more than that of its If and all that this closes to; so if few rules say it, as few of these do.
			var l []api.Rule
			var parts []int
			for set, full := range plainCloses(t, n, closed) {
				if set != full {
					l = append(l, rule(set, full))
					parts = append(parts, obeyedBy(n, rule(set, full)))
				}
			}
			base, err := Base(n, l)
			if err != api.OK || !slices.Equal(plainClosed(n, base), closed) {
				t.Fatalf("Base(%d, %v) = %v, error %d", n, l, base, err)
			}
			if len(base) > 0 && canSay(parts, family, len(base)-1, 1<<(1<<n)-1) {
				t.Fatalf("fewer than %v say of %d marks what is obeyed by %v", base, n, closed)
			}
		}
	}
}

func TestP4ARuleFollowsJustIfCloseOfIfHasAllOfThen(t *testing.T) {
	draw := new(samples.Draw)
	for _, c := range tried() {
		closes := plainCloses(t, c.n, plainClosed(c.n, c.l))
		for _, r := range askedRules(c.n, closes, draw) {
			full, err := Close(c.n, c.l, r.If)
			follows, itsErr := Follows(c.n, c.l, r)
			if err != api.OK || itsErr != api.OK || follows != hasAll(full, r.Then) {
				t.Fatalf("%v of %d marks: %v follows: %v, but Close of If is %d", c.l, c.n, r, follows, full)
			}
		}
	}
}

func TestRulesMayStandInAnyOrder(t *testing.T) {
	for _, c := range great() {
		turned := slices.Clone(c.l)
		slices.Reverse(turned)
		keys, _ := Keys(c.n, c.l)
		base, _ := Base(c.n, c.l)
		otherKeys, err := Keys(c.n, turned)
		other, itsErr := Base(c.n, turned)
		if err != api.OK || itsErr != api.OK || !slices.Equal(keys, otherKeys) || !slices.Equal(base, other) {
			t.Fatalf("%v of %d marks: %v and %v; turned %v and %v", c.l, c.n, keys, base, otherKeys, other)
		}
	}
}

// roomy: the same rules with spare room behind them; the whole room, with rules that must stay, comes along.
func roomy(l []api.Rule) (list, room []api.Rule) {
	room = append(slices.Clone(l), rule(77, 78), rule(79, 80), rule(81, 82), rule(83, 84))
	return room[:len(l)], room
}

// spoil writes over rules and all the room behind them.
func spoil(l []api.Rule) {
	whole := l[:cap(l)]
	for i := range whole {
		whole[i] = rule(-5, -5)
	}
}

// The document's P2 and P3 for all chapters, not this chapter's.
func TestOnlyReadAndTheSameEachTime(t *testing.T) {
	draw := new(samples.Draw)
	for _, c := range append(great(), trial{0, nil}, trial{2, rules(1, 2)}, trial{3, rules(4, 1, 2, 1, 1, 1)}) {
		list, room := roomy(c.l)
		before := slices.Clone(room)
		closes := plainCloses(t, c.n, plainClosed(c.n, c.l))
		for range 2 {
			keys, err := Keys(c.n, list)
			base, itsErr := Base(c.n, list)
			if err != api.OK || itsErr != api.OK || !slices.Equal(keys, plainKeys(c.n, closes)) || !slices.Equal(base, plainBase(closes)) {
				t.Fatalf("%v of %d marks: %v, %v, errors %d, %d", c.l, c.n, keys, base, err, itsErr)
			}
			samples.Spoil(keys)
			spoil(base)
			for range 10 {
				set := draw.Next(1 << c.n)
				full, _ := Close(c.n, list, set)
				follows, _ := Follows(c.n, list, rule(set, closes[set]))
				if full != closes[set] || !follows {
					t.Fatalf("%v of %d marks: Close of %d is %d; follows: %v", c.l, c.n, set, full, follows)
				}
			}
		}
		if !slices.Equal(room, before) {
			t.Errorf("%v of %d marks was changed: %v", c.l, c.n, room)
		}
	}
}

func TestOfOnlyReadsAndTellsTheSameEachTime(t *testing.T) {
	for _, c := range []api.Context{{}, samples.ContextOf(2), samples.ContextOf(4, 3, 6, 7), samples.JustOne(10), samples.Skew60()} {
		list, room := samples.Roomy(c.Has...)
		before := slices.Clone(room)
		want := plainBase(plainCloses(t, c.Marks, plainByThings(c)))
		for range 2 {
			l, err := Of(api.Context{Things: c.Things, Marks: c.Marks, Has: list})
			if err != api.OK || !slices.Equal(l, want) {
				t.Fatalf("Of(%v) = %v, error %d, want %v", c, l, err, want)
			}
			spoil(l)
		}
		if !slices.Equal(room, before) {
			t.Errorf("%v was changed: %v", c, room)
		}
	}
}
