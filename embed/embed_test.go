package embed

import (
	"math"
	"slices"
	"testing"

	"hasse/api"
	"hasse/order"
	"hasse/samples"
)

// below tells an order by its sets.
func below(sets ...int) api.Order { return samples.Below(sets...) }

// upTo: is a letter another one, or below it?
func upTo(o api.Order, a, b int) bool { return a == b || samples.IsBelow(o, a, b) }

// words of n letters, all of up to some length.
func words(n, most int) [][]int {
	var all [][]int
	for length := range most + 1 {
		all = append(all, samples.Maps(length, n)...)
	}
	return all
}

// drawnWord of an order that has a letter, of least to most letters.
func drawnWord(o api.Order, least, most int, draw *samples.Draw) []int {
	return samples.DrawnMap(least+draw.Next(most-least+1), o.N, draw)
}

// drawnUnder a word: some of its letters are left out, others are changed for lesser ones, so that it goes into it; but here and there a letter is changed for any.
func drawnUnder(o api.Order, word []int, draw *samples.Draw) []int {
	var under []int
	for _, letter := range word {
		other := draw.Next(o.N)
		if draw.Next(3) == 0 || draw.Next(12) > 0 && !upTo(o, other, letter) {
			other = letter
		}
		if draw.Next(4) > 0 {
			under = append(under, other)
		}
	}
	return under
}

// trial: an order, and some words of it.
type trial struct {
	o     api.Order
	words [][]int
}

// trials of lists of up to twelve words, of which many go into others, some twice.
func trials(count int) []trial {
	draw := new(samples.Draw)
	var all []trial
	for i, o := range samples.GreatOrders(count) {
		list := [][]int{}
		most := 1 + i%12
		least := draw.Next(most + 1)
		for range draw.Next(13) {
			word := drawnWord(o, least, most, draw)
			if len(list) > 0 && draw.Next(1+i%5) > 0 {
				word = drawnUnder(o, list[draw.Next(len(list))], draw)
			}
			if len(list) > 0 && draw.Next(8) == 0 {
				word = slices.Clone(list[draw.Next(len(list))])
			}
			list = append(list, word)
		}
		all = append(all, trial{o, list})
	}
	return all
}

// plainInto by the chapter's words: as many places of b as a has letters are looked for, from left to right.
func plainInto(o api.Order, a, b []int) bool {
	if len(a) == 0 {
		return true
	}
	for place, letter := range b {
		if upTo(o, a[0], letter) && plainInto(o, a[1:], b[place+1:]) {
			return true
		}
	}
	return false
}

// plainLeast by the words of Y1 and of Y3.
func plainLeast(list [][]int, into func(a, b []int) bool) []int {
	places := []int{}
	for k, word := range list {
		count := 0
		for i, other := range list {
			bothWays := into(other, word) && into(word, other)
			if i != k && into(other, word) && !(bothWays && i > k) {
				count++
			}
		}
		if count == 0 {
			places = append(places, k)
		}
	}
	return places
}

// plainGood by the words of Y1: of all pairs the first one.
func plainGood(list [][]int, into func(a, b []int) bool) (pair [2]int, found bool) {
	var pairs [][]int
	for k, word := range list {
		for i, other := range list[:k] {
			if into(other, word) {
				pairs = append(pairs, []int{i, k})
			}
		}
	}
	if len(pairs) == 0 {
		return pair, false
	}
	return [2]int(slices.MinFunc(pairs, slices.Compare)), true
}

// howMany of a letter are in a heap?
func howMany(heap []int, letter int) int {
	count := 0
	for _, one := range heap {
		if one == letter {
			count++
		}
	}
	return count
}

// plainLighter by the words of Y2.
func plainLighter(o api.Order, a, b []int) bool {
	two := false
	for x := range o.N {
		two = two || howMany(a, x) != howMany(b, x)
		if howMany(a, x) <= howMany(b, x) {
			continue
		}
		outweighed := false
		for y := range o.N {
			outweighed = outweighed || howMany(b, y) > howMany(a, y) && samples.IsBelow(o, x, y)
		}
		if !outweighed {
			return false
		}
	}
	return two
}

// plainDivides by the words of Y3.
func plainDivides(a, b []int) bool {
	for place := range a {
		if a[place] > b[place] {
			return false
		}
	}
	return true
}

// into, of what is right.
func into(t *testing.T, o api.Order, a, b []int) bool {
	t.Helper()
	got, err := Into(o, a, b)
	if err != api.OK {
		t.Fatalf("Into(%v, %v, %v): error %d", o, a, b, err)
	}
	return got
}

// lighter, of what is right.
func lighter(t *testing.T, o api.Order, a, b []int) bool {
	t.Helper()
	got, err := Lighter(o, a, b)
	if err != api.OK {
		t.Fatalf("Lighter(%v, %v, %v): error %d", o, a, b, err)
	}
	return got
}

// dividesIt, of what is right.
func dividesIt(t *testing.T, a, b []int) bool {
	t.Helper()
	got, err := Divides(a, b)
	if err != api.OK {
		t.Fatalf("Divides(%v, %v): error %d", a, b, err)
	}
	return got
}

// leastOf right words.
func leastOf(t *testing.T, o api.Order, list [][]int) []int {
	t.Helper()
	got, err := Least(o, list)
	if err != api.OK {
		t.Fatalf("Least(%v, %v): error %d", o, list, err)
	}
	return got
}

// cornersOf right rows.
func cornersOf(t *testing.T, list [][]int) []int {
	t.Helper()
	got, err := Corners(list)
	if err != api.OK {
		t.Fatalf("Corners(%v): error %d", list, err)
	}
	return got
}

func TestY1Into(t *testing.T) {
	chain, fork := below(0, 1, 3), below(0, 1, 1)
	for _, c := range []struct {
		name string
		o    api.Order
		a, b []int
		want bool
	}{
		{"the document's", chain, []int{0, 1}, []int{2, 0, 1}, true},
		{"nothing into nothing", below(), nil, nil, true},
		{"nothing into something", chain, nil, []int{0}, true},
		{"something into nothing", chain, []int{0}, nil, false},
		{"a word into itself", fork, []int{1, 0, 2}, []int{1, 0, 2}, true},
		{"a letter onto one above it", chain, []int{0}, []int{2}, true},
		{"a letter onto one below it", chain, []int{2}, []int{0}, false},
		{"a letter onto one beside it", fork, []int{1}, []int{2}, false},
		{"each onto one above it", fork, []int{0, 0}, []int{1, 2}, true},
		{"two onto one", chain, []int{0, 0}, []int{2}, false},
		{"the other way round", chain, []int{2, 0}, []int{0, 2}, false},
		{"with others between", chain, []int{2, 0}, []int{1, 2, 1, 0, 1}, true},
		{"the first that bears it", chain, []int{1, 2}, []int{1, 0, 2}, true},
		{"nothing left for the last one", chain, []int{0, 0, 2}, []int{0, 2, 0}, false},
		{"in the numbers' order there would be a way", fork, []int{1}, []int{0, 2}, false},
		{"twelve into twelve", chain, slices.Repeat([]int{1}, 12), slices.Repeat([]int{2}, 12), true},
		{"twelve into eleven", chain, slices.Repeat([]int{0}, 12), slices.Repeat([]int{2}, 11), false},
		{"all of ten apart", samples.Apart(), []int{0, 9}, []int{5, 0, 1, 2, 3, 4, 6, 7, 8, 9}, true},
		{"falling ones", samples.Falling(), []int{9, 8, 7}, []int{0, 0, 0}, true},
		{"rising ones", samples.Rising(), []int{9, 8, 7}, []int{0, 0, 0}, false},
	} {
		if got := into(t, c.o, c.a, c.b); got != c.want {
			t.Errorf("%s: Into(%v, %v, %v) = %v", c.name, c.o, c.a, c.b, got)
		}
	}
}

// askByWords holds what a call tells of each two words of many orders against what it must tell, and looks that both answers come often.
func askByWords(t *testing.T, call, plain func(o api.Order, a, b []int) bool) {
	t.Helper()
	count := [2]int{}
	ask := func(o api.Order, a, b []int) {
		want := plain(o, a, b)
		if got := call(o, a, b); got != want {
			t.Fatalf("%v, %v, %v: %v, want %v", o, a, b, got, want)
		}
		if want {
			count[1]++
		} else {
			count[0]++
		}
	}
	for _, o := range samples.SmallOrders() {
		all := words(o.N, 4-o.N/2)
		for i, a := range all {
			for k, b := range all {
				if o.N < 4 || (i+k)%5 == 0 {
					ask(o, a, b)
				}
			}
		}
	}
	for _, one := range trials(1000) {
		for _, a := range one.words {
			for _, b := range one.words {
				ask(one.o, a, b)
			}
		}
	}
	if min(count[0], count[1]) < 10000 {
		t.Errorf("no, and yes: %v", count)
	}
}

func TestY1IntoByItsWords(t *testing.T) {
	askByWords(t, func(o api.Order, a, b []int) bool { return into(t, o, a, b) }, plainInto)
}

func TestY1LeastAndGood(t *testing.T) {
	chain, fork := below(0, 1, 3), below(0, 1, 1)
	for _, c := range []struct {
		name  string
		o     api.Order
		list  [][]int
		least []int
		pair  [2]int
		found bool
	}{
		{"no words", chain, nil, nil, [2]int{}, false},
		{"no letters, no words", below(), [][]int{}, nil, [2]int{}, false},
		{"no letters, one word", below(), [][]int{{}}, []int{0}, [2]int{}, false},
		{"no letters, twelve words", below(), make([][]int, 12), []int{0}, [2]int{0, 1}, true},
		{"one word", chain, [][]int{{0, 2}}, []int{0}, [2]int{}, false},
		{"one twice", chain, [][]int{{0, 2}, {0, 2}}, []int{0}, [2]int{0, 1}, true},
		{"one twice, with another one between", fork, [][]int{{1}, {2}, {1}}, []int{0, 1}, [2]int{0, 2}, true},
		{"ever lesser ones", chain, [][]int{{2}, {1}, {0}}, []int{2}, [2]int{}, false},
		{"ever greater ones", chain, [][]int{{0}, {1}, {2}}, []int{0}, [2]int{0, 1}, true},
		{"ever shorter ones", chain, [][]int{{0, 0, 0}, {0, 0}, {0}, {}}, []int{3}, [2]int{}, false},
		{"beside one another", fork, [][]int{{1}, {2}}, []int{0, 1}, [2]int{}, false},
		{"nothing goes into all", fork, [][]int{{1}, {2}, nil, {0}, nil}, []int{2}, [2]int{2, 3}, true},
		{"the first one counts", chain, [][]int{{2, 2}, {1}, {0, 1}, {1}}, []int{1}, [2]int{1, 2}, true},
		{"the first of all pairs has not the least second place", fork, [][]int{{1, 1}, {2}, {2, 2}, {1, 0, 1}}, []int{0, 1}, [2]int{0, 3}, true},
		{"twelve words", samples.Apart(), [][]int{{0}, {1}, {2}, {3}, {4}, {5}, {6}, {7}, {8}, {9}, {0, 1}, {8, 9}}, []int{0, 1, 2, 3, 4, 5, 6, 7, 8, 9}, [2]int{0, 10}, true},
	} {
		if got := leastOf(t, c.o, c.list); !slices.Equal(got, c.least) {
			t.Errorf("%s: Least(%v, %v) = %v, want %v", c.name, c.o, c.list, got, c.least)
		}
		i, k, found, err := Good(c.o, c.list)
		if [2]int{i, k} != c.pair || found != c.found || err != api.OK {
			t.Errorf("%s: Good(%v, %v) = %d, %d, %v, error %d, want %v", c.name, c.o, c.list, i, k, found, err, c.pair)
		}
	}
}

func TestY1LeastAndGoodByTheirWords(t *testing.T) {
	count := [13]int{}
	ask := func(o api.Order, list [][]int) {
		goes := func(a, b []int) bool { return plainInto(o, a, b) }
		want := plainLeast(list, goes)
		if got := leastOf(t, o, list); !slices.Equal(got, want) {
			t.Fatalf("Least(%v, %v) = %v, want %v", o, list, got, want)
		}
		count[len(want)]++
		pair, is := plainGood(list, goes)
		i, k, found, err := Good(o, list)
		if [2]int{i, k} != pair || found != is || err != api.OK {
			t.Fatalf("Good(%v, %v) = %d, %d, %v, error %d, want %v, %v", o, list, i, k, found, err, pair, is)
		}
	}
	for _, o := range samples.SmallOrders() {
		all := words(min(o.N, 3), 2)
		for _, a := range all {
			for _, b := range all {
				ask(o, [][]int{a, b})
				ask(o, [][]int{b, a, all[len(all)/2], a})
			}
		}
	}
	for _, one := range trials(3000) {
		ask(one.o, one.words)
	}
	for size := 1; size < 8; size++ {
		if count[size] < 50 {
			t.Errorf("how many lists have how many least words: %v", count)
		}
	}
}

func TestY2Lighter(t *testing.T) {
	chain, fork := below(0, 1, 3), below(0, 1, 1)
	for _, c := range []struct {
		name string
		o    api.Order
		a, b []int
		want bool
	}{
		{"nothing, twice", below(), nil, []int{}, false},
		{"nothing", chain, nil, []int{0}, true},
		{"something", chain, []int{0}, nil, false},
		{"the same", chain, []int{0, 2}, []int{0, 2}, false},
		{"the same in another row", chain, []int{0, 2, 0}, []int{2, 0, 0}, false},
		{"a letter less", chain, []int{0, 2}, []int{2, 0, 0}, true},
		{"a letter more", chain, []int{0, 0, 2}, []int{2, 0}, false},
		{"a lesser one", chain, []int{1}, []int{2}, true},
		{"a greater one", chain, []int{2}, []int{1}, false},
		{"twelve lesser ones", chain, []int{0, 1, 0, 1, 0, 1, 0, 1, 0, 1, 0, 1}, []int{2}, true},
		{"a letter that only a has more of is no help", chain, []int{0, 2}, []int{1, 0, 0}, false},
		{"a letter that both have is no help", chain, []int{2, 1}, []int{2}, false},
		{"nor is one that is the same", chain, []int{1, 1}, []int{1, 0, 0}, false},
		{"beside", fork, []int{1}, []int{2}, false},
		{"one outweighs, another one goes", fork, []int{0, 0, 0}, []int{1, 2}, true},
		{"not all are outweighed", below(0, 0, 1), []int{0, 1}, []int{2}, false},
		{"each by its own", below(0, 0, 1, 2), []int{0, 0, 1}, []int{2, 3}, true},
		{"what is the same both have", fork, []int{2, 0, 0}, []int{2, 1}, true},
	} {
		if got := lighter(t, c.o, c.a, c.b); got != c.want {
			t.Errorf("%s: Lighter(%v, %v, %v) = %v", c.name, c.o, c.a, c.b, got)
		}
	}
}

func TestY2ByItsWords(t *testing.T) {
	askByWords(t, func(o api.Order, a, b []int) bool { return lighter(t, o, a, b) }, plainLighter)
}

func TestY3Divides(t *testing.T) {
	for _, c := range []struct {
		name string
		a, b []int
		want bool
	}{
		{"no places", nil, []int{}, true},
		{"the same", []int{3, 0}, []int{3, 0}, true},
		{"less", []int{0}, []int{1}, true},
		{"more", []int{1}, []int{0}, false},
		{"more in the first place", []int{2, 0, 0}, []int{1, 9, 9}, false},
		{"more in the last place", []int{0, 0, 2}, []int{9, 9, 1}, false},
		{"never more", []int{1, 5, 0}, []int{1, 6, 9}, true},
		{"two does not divide three here otherwise than by what is less", []int{2}, []int{3}, true},
		{"the greatest number", []int{1000000, 0}, []int{1000000, 1000000}, true},
		{"twelve places", slices.Repeat([]int{7}, 12), slices.Repeat([]int{7}, 12), true},
	} {
		if got := dividesIt(t, c.a, c.b); got != c.want {
			t.Errorf("%s: Divides(%v, %v) = %v", c.name, c.a, c.b, got)
		}
	}
}

func TestY3Corners(t *testing.T) {
	for _, c := range []struct {
		name string
		rows [][]int
		want []int
	}{
		{"no rows", nil, nil},
		{"no rows either", [][]int{}, nil},
		{"a row without numbers", [][]int{{}}, []int{0}},
		{"twelve such rows", make([][]int, 12), []int{0}},
		{"nil and empty are the same", [][]int{{}, nil}, []int{0}},
		{"one is less than both", [][]int{{1, 2}, {2, 1}, {1, 1}}, []int{2}},
		{"none is less", [][]int{{1, 2}, {2, 1}}, []int{0, 1}},
		{"the same", [][]int{{2}, {2}}, []int{0}},
		{"the first of the same", [][]int{{3}, {2}, {2}, {5}}, []int{1}},
		{"a stair", [][]int{{0, 3}, {1, 2}, {2, 1}, {3, 0}, {2, 2}, {1, 2}}, []int{0, 1, 2, 3}},
		{"the greatest numbers", [][]int{{1000000}, {999999}}, []int{1}},
	} {
		if got := cornersOf(t, c.rows); !slices.Equal(got, c.want) {
			t.Errorf("%s: Corners(%v) = %v, want %v", c.name, c.rows, got, c.want)
		}
	}
}

// rowLists: rows of few small numbers, and of any number of great ones.
func rowLists(count int) [][][]int {
	draw := new(samples.Draw)
	var all [][][]int
	for i := range count {
		places := draw.Next(13)
		if i%2 == 0 {
			places = 1 + i%4
		}
		most := []int{3, 5, 20, api.MaxSum + 1}[draw.Next(4)]
		rows := [][]int{}
		for range draw.Next(13) {
			rows = append(rows, samples.DrawnMap(places, most, draw))
		}
		all = append(all, rows)
	}
	return all
}

func TestY3ByItsWords(t *testing.T) {
	pairs := [2]int{}
	count := [13]int{}
	ask := func(rows [][]int) {
		want := plainLeast(rows, plainDivides)
		if got := cornersOf(t, rows); !slices.Equal(got, want) {
			t.Fatalf("Corners(%v) = %v, want %v", rows, got, want)
		}
		count[len(want)]++
		for _, a := range rows {
			for _, b := range rows {
				want := plainDivides(a, b)
				if got := dividesIt(t, a, b); got != want {
					t.Fatalf("Divides(%v, %v) = %v", a, b, got)
				}
				if want {
					pairs[1]++
				} else {
					pairs[0]++
				}
			}
		}
	}
	all := samples.Maps(2, 3)
	for _, a := range all {
		for _, b := range all {
			for _, c := range all {
				ask([][]int{a, b, c})
			}
		}
	}
	for _, rows := range rowLists(3000) {
		ask(rows)
	}
	for size := range 8 {
		if count[size] < 50 || min(pairs[0], pairs[1]) < 10000 {
			t.Errorf("how many lists have how many corners: %v; rows that do not divide, and that do: %v", count, pairs)
		}
	}
}

func TestY4Higman(t *testing.T) {
	for _, one := range trials(2000) {
		places := leastOf(t, one.o, one.words)
		for _, word := range one.words {
			if !slices.ContainsFunc(places, func(k int) bool { return into(t, one.o, one.words[k], word) }) {
				t.Fatalf("%v, %v: none of the least ones, %v, goes into %v", one.o, one.words, places, word)
			}
		}
		for _, k := range places {
			for _, i := range places {
				if i != k && into(t, one.o, one.words[i], one.words[k]) {
					t.Fatalf("%v, %v: of the least ones %d goes into %d", one.o, one.words, i, k)
				}
			}
		}
		if _, _, found, _ := Good(one.o, one.words); !found && len(one.words) > 0 && !slices.Contains(places, len(one.words)-1) {
			t.Fatalf("%v, %v: none goes into a later one, but the last one is not least", one.o, one.words)
		}
	}
}

func TestY4Dickson(t *testing.T) {
	for _, rows := range rowLists(2000) {
		places := cornersOf(t, rows)
		for _, row := range rows {
			if !slices.ContainsFunc(places, func(k int) bool { return dividesIt(t, rows[k], row) }) {
				t.Fatalf("%v: none of the corners, %v, divides %v", rows, places, row)
			}
		}
		for _, k := range places {
			for _, i := range places {
				if i != k && dividesIt(t, rows[i], rows[k]) {
					t.Fatalf("%v: of the corners %d divides %d", rows, i, k)
				}
			}
		}
	}
}

func TestY4WhatGoesIntoWhatGoesIntoAThird(t *testing.T) {
	count := [2]int{}
	ask := func(o api.Order, all [][]int) {
		for _, a := range all {
			if !into(t, o, a, a) || lighter(t, o, a, a) {
				t.Fatalf("%v: %v does not go into itself, or is lighter than itself", o, a)
			}
			for _, b := range all {
				goes, light := into(t, o, a, b), lighter(t, o, a, b)
				if goes && into(t, o, b, a) && !slices.Equal(a, b) {
					t.Fatalf("%v: %v and %v go into one another", o, a, b)
				}
				if light && lighter(t, o, b, a) {
					t.Fatalf("%v: each of %v and %v is lighter", o, a, b)
				}
				for _, c := range all {
					if goes && into(t, o, b, c) {
						count[0]++
						if !into(t, o, a, c) {
							t.Fatalf("%v: %v goes into %v, this into %v, but not the first into the last", o, a, b, c)
						}
					}
					if light && lighter(t, o, b, c) {
						count[1]++
						if !lighter(t, o, a, c) {
							t.Fatalf("%v: %v is lighter than %v, this than %v, but not the first than the last", o, a, b, c)
						}
					}
				}
			}
		}
	}
	for _, o := range samples.SmallOrders() {
		if o.N < 4 {
			ask(o, words(o.N, 4-o.N/2))
		}
	}
	for _, one := range trials(300) {
		ask(one.o, one.words)
	}
	if min(count[0], count[1]) < 10000 {
		t.Errorf("words, and heaps, that were gone through by three: %v", count)
	}
}

func TestY4WhatGoesIntoIsNoHeavier(t *testing.T) {
	for _, one := range trials(1000) {
		for _, a := range one.words {
			for _, b := range one.words {
				if into(t, one.o, a, b) && !lighter(t, one.o, a, b) && !slices.Equal(slices.Sorted(slices.Values(a)), slices.Sorted(slices.Values(b))) {
					t.Fatalf("%v: %v goes into %v, is another heap, but not a lighter one", one.o, a, b)
				}
			}
		}
	}
}

// shuffled: the same letters in any row.
func shuffled(heap []int, draw *samples.Draw) []int {
	other := slices.Clone(heap)
	for i := range other {
		k := draw.Next(i + 1)
		other[i], other[k] = other[k], other[i]
	}
	return other
}

func TestY4DershowitzManna(t *testing.T) {
	draw := new(samples.Draw)
	count := 0
	for _, one := range trials(2000) {
		for _, heap := range one.words {
			if len(heap) == 0 {
				continue
			}
			place := draw.Next(len(heap))
			letter := heap[place]
			changed := slices.Delete(slices.Clone(heap), place, place+1)
			for other := range one.o.N {
				for samples.IsBelow(one.o, other, letter) && len(changed) < 12 && draw.Next(3) > 0 {
					changed = append(changed, other)
					count++
				}
			}
			a, b := shuffled(changed, draw), shuffled(heap, draw)
			if !lighter(t, one.o, a, b) || lighter(t, one.o, b, a) {
				t.Fatalf("%v: of %v letter %d was changed for lesser ones: %v is not lighter", one.o, b, letter, a)
			}
		}
	}
	if count < 5000 {
		t.Errorf("%d lesser letters", count)
	}
}

// bySteps tells of each two heaps whether changes, each of one letter for lesser ones, lead from the second to the first. Those that only take a letter away may come first, so none on the way need be greater than both.
func bySteps(o api.Order, heaps [][]int) [][]bool {
	lighter := make([][]bool, len(heaps))
	for i, a := range heaps {
		lighter[i] = make([]bool, len(heaps))
		for k, b := range heaps {
			lighter[i][k] = oneStep(o, a, b)
		}
	}
	for through := range heaps {
		for i := range heaps {
			for k := range heaps {
				lighter[i][k] = lighter[i][k] || lighter[i][through] && lighter[through][k]
			}
		}
	}
	return lighter
}

// oneStep: is a what b is when one of its letters is changed for lesser ones?
func oneStep(o api.Order, a, b []int) bool {
	for changed := range o.N {
		so := howMany(b, changed) > 0 && howMany(a, changed) == howMany(b, changed)-1
		for other := range o.N {
			more := howMany(a, other) > howMany(b, other)
			less := howMany(a, other) < howMany(b, other)
			so = so && !(more && !samples.IsBelow(o, other, changed)) && !(less && other != changed)
		}
		if so {
			return true
		}
	}
	return false
}

func TestY4LighterIsWhatStepsLeadTo(t *testing.T) {
	for _, o := range samples.SmallOrders() {
		if o.N == 4 {
			continue
		}
		// A heap is a list that rises or stays.
		heaps := slices.DeleteFunc(words(o.N, 4), func(heap []int) bool { return !slices.IsSorted(heap) })
		lighterBySteps := bySteps(o, heaps)
		for i, a := range heaps {
			for k, b := range heaps {
				if got := lighter(t, o, a, b); got != lighterBySteps[i][k] {
					t.Fatalf("Lighter(%v, %v, %v) = %v, by steps it is otherwise", o, a, b, got)
				}
			}
		}
	}
}

func TestY2AHeapHasNoRow(t *testing.T) {
	draw := new(samples.Draw)
	for _, one := range trials(500) {
		for _, a := range one.words {
			for _, b := range one.words {
				if lighter(t, one.o, a, b) != lighter(t, one.o, shuffled(a, draw), shuffled(b, draw)) {
					t.Fatalf("Lighter(%v, %v, %v) hangs on how they lie", one.o, a, b)
				}
			}
		}
	}
}

// turned: a word from its end on.
func turned(word []int) []int {
	other := slices.Clone(word)
	slices.Reverse(other)
	return other
}

func TestTheWholeWordsTurnedRound(t *testing.T) {
	for _, one := range trials(500) {
		for _, a := range one.words {
			for _, b := range one.words {
				if into(t, one.o, a, b) != into(t, one.o, turned(a), turned(b)) {
					t.Fatalf("%v: %v and %v turned round tell otherwise", one.o, a, b)
				}
			}
		}
	}
	// Words of one length go into one another in the dual the other way round.
	for _, o := range samples.SmallOrders() {
		dual, _ := order.Dual(o)
		for _, a := range samples.Maps(2, o.N) {
			for _, b := range samples.Maps(2, o.N) {
				if into(t, o, a, b) != into(t, dual, b, a) {
					t.Fatalf("%v: %v and %v tell otherwise in the dual", o, a, b)
				}
			}
		}
	}
}

func TestTheWholeLettersNumberedAnew(t *testing.T) {
	o := below(0, 0, 3, 2)
	all := words(4, 3)
	for _, names := range samples.Lists(4) {
		other := samples.Named(o, names)
		for i, a := range all {
			b := all[(i*37+11)%len(all)]
			x, y := samples.Renamed(a, names), samples.Renamed(b, names)
			if into(t, o, a, b) != into(t, other, x, y) || lighter(t, o, a, b) != lighter(t, other, x, y) {
				t.Fatalf("%v: %v and %v tell otherwise by the names %v", o, a, b, names)
			}
		}
	}
}

// isRefused: all calls of an order with a list at each of their places, the others being right, tell the error and nothing else.
func isRefused(t *testing.T, o api.Order, list, right []int, want api.Errno) {
	t.Helper()
	for i, pair := range [][2][]int{{list, right}, {right, list}, {list, list}} {
		if got, err := Into(o, pair[0], pair[1]); err != want || got {
			t.Errorf("%d: Into(%v, %v, %v) = %v, error %d, want error %d", i, o, pair[0], pair[1], got, err, want)
		}
		if got, err := Lighter(o, pair[0], pair[1]); err != want || got {
			t.Errorf("%d: Lighter(%v, %v, %v) = %v, error %d, want error %d", i, o, pair[0], pair[1], got, err, want)
		}
	}
	for _, size := range []int{1, 2, 5, 12} {
		for _, place := range []int{0, size / 2, size - 1} {
			all := slices.Repeat([][]int{right}, size)
			all[place] = list
			areRefused(t, o, all, want)
		}
	}
}

// areRefused: a list of words is.
func areRefused(t *testing.T, o api.Order, list [][]int, want api.Errno) {
	t.Helper()
	if got, err := Least(o, list); err != want || got != nil {
		t.Errorf("Least(%v, %v) = %v, error %d, want error %d", o, list, got, err, want)
	}
	if i, k, found, err := Good(o, list); err != want || found || i != 0 || k != 0 {
		t.Errorf("Good(%v, %v) = %d, %d, %v, error %d, want error %d", o, list, i, k, found, err, want)
	}
}

func TestY1Y2TooMany(t *testing.T) {
	for _, o := range []api.Order{below(), below(0), below(0, 1, 0), samples.Apart()} {
		for _, size := range []int{13, 14, 100} {
			for _, letter := range []int{0, -1, 10, math.MaxInt} {
				long := slices.Repeat([]int{letter}, size)
				isRefused(t, o, long, nil, api.ErrMany)
				// It comes ahead of what is no letter, wherever that is.
				isRefused(t, o, long, []int{-1}, api.ErrMany)
				areRefused(t, o, slices.Repeat([][]int{{letter}}, size), api.ErrMany)
			}
			areRefused(t, o, make([][]int, size), api.ErrMany)
		}
	}
}

func TestY1Y2NoLetter(t *testing.T) {
	for _, o := range []api.Order{below(), below(0), below(0, 1, 0), samples.Apart()} {
		for _, no := range []int{-1, o.N, o.N + 1, 63, 64, math.MaxInt, math.MinInt} {
			isRefused(t, o, []int{no}, nil, api.ErrRange)
			isRefused(t, o, slices.Repeat([]int{no}, 12), nil, api.ErrRange)
			if o.N > 0 {
				isRefused(t, o, []int{0, no}, []int{0}, api.ErrRange)
				isRefused(t, o, []int{no, 0}, slices.Repeat([]int{0}, 12), api.ErrRange)
				isRefused(t, o, append(slices.Repeat([]int{0}, 11), no), []int{0}, api.ErrRange)
			}
		}
	}
}

func TestA1CheckIsToldFirst(t *testing.T) {
	for _, w := range samples.WrongOrders() {
		for _, list := range [][]int{nil, {0}, {0, 1}, {-1}, {11}, make([]int, 13), slices.Repeat([]int{-1}, 13)} {
			isRefused(t, w.Order, list, nil, w.Err)
			isRefused(t, w.Order, list, []int{0}, w.Err)
		}
		for _, list := range [][][]int{nil, {}, make([][]int, 13), {{-1}}} {
			areRefused(t, w.Order, list, w.Err)
		}
	}
}

// rowsAreRefused by both calls of rows.
func rowsAreRefused(t *testing.T, want api.Errno, rows ...[]int) {
	t.Helper()
	if got, err := Corners(rows); err != want || got != nil {
		t.Errorf("Corners(%v) = %v, error %d, want error %d", rows, got, err, want)
	}
	if len(rows) != 2 {
		return
	}
	for _, pair := range [][2][]int{{rows[0], rows[1]}, {rows[1], rows[0]}} {
		if got, err := Divides(pair[0], pair[1]); err != want || got {
			t.Errorf("Divides(%v, %v) = %v, error %d, want error %d", pair[0], pair[1], got, err, want)
		}
	}
}

func TestY3Wrong(t *testing.T) {
	wrong := []int{-1, 1000001, math.MaxInt, math.MinInt}
	for _, size := range []int{13, 14, 100} {
		for _, number := range append(wrong, 0) {
			long := slices.Repeat([]int{number}, size)
			rowsAreRefused(t, api.ErrMany, long)
			rowsAreRefused(t, api.ErrMany, long, long)
			rowsAreRefused(t, api.ErrMany, long, nil)
			rowsAreRefused(t, api.ErrMany, long, []int{-1})
			rowsAreRefused(t, api.ErrMany, []int{1}, []int{1, 2}, []int{-1}, long)
			rowsAreRefused(t, api.ErrMany, slices.Repeat([][]int{{number}}, size)...)
		}
		rowsAreRefused(t, api.ErrMany, make([][]int, size)...)
	}
	for _, number := range append(wrong, 0) {
		rowsAreRefused(t, api.ErrForm, []int{number}, nil)
		rowsAreRefused(t, api.ErrForm, []int{number}, []int{1, 2})
		rowsAreRefused(t, api.ErrForm, slices.Repeat([]int{number}, 12), slices.Repeat([]int{0}, 11))
		rowsAreRefused(t, api.ErrForm, []int{number}, []int{1}, []int{1, 2})
		rowsAreRefused(t, api.ErrForm, []int{1, 2}, []int{number}, []int{1})
		rowsAreRefused(t, api.ErrForm, nil, []int{number}, nil)
	}
	for _, number := range wrong {
		rowsAreRefused(t, api.ErrRange, []int{number})
		rowsAreRefused(t, api.ErrRange, []int{number}, []int{0})
		rowsAreRefused(t, api.ErrRange, []int{0, 0, number}, []int{1, 1, 1})
		// What has already more is refused all the same.
		rowsAreRefused(t, api.ErrRange, []int{9, number}, []int{1, 1})
		rowsAreRefused(t, api.ErrRange, append(slices.Repeat([][]int{{3}}, 11), []int{number})...)
	}
}

// roomyLists: lists, each with spare room behind it, and spare lists behind them; the rooms come along.
func roomyLists(lists ...[]int) (roomy [][]int, rooms [][]int) {
	for _, one := range lists {
		list, room := samples.Roomy(one...)
		roomy, rooms = append(roomy, list), append(rooms, room)
	}
	whole := append(slices.Clone(roomy), []int{77}, []int{78})
	return whole[:len(lists)], append(rooms, whole[len(lists)], whole[len(lists)+1])
}

func TestP2P3OnlyReadAndTheSameEachTime(t *testing.T) {
	sets, setsRoom := samples.Roomy(0, 1, 1)
	o := below(sets...)
	list, rooms := roomyLists([]int{1, 0}, []int{0}, []int{2, 1, 0}, []int{0})
	rows, rowsRooms := roomyLists([]int{1, 2}, []int{2, 1}, []int{1, 2}, []int{2, 2})
	all := func() []int { return slices.Concat(setsRoom, slices.Concat(rooms...), slices.Concat(rowsRooms...)) }
	spare := func() [2]int { return [2]int{list[:5][4][0], rows[:5][4][0]} }
	before := all()
	for range 3 {
		places, corners := leastOf(t, o, list), cornersOf(t, rows)
		if !slices.Equal(places, []int{1}) || !slices.Equal(corners, []int{0, 1}) {
			t.Fatalf("Least = %v, Corners = %v", places, corners)
		}
		i, k, found, err := Good(o, list)
		if i != 0 || k != 2 || !found || err != api.OK {
			t.Fatalf("Good = %d, %d, %v, error %d", i, k, found, err)
		}
		if !into(t, o, list[0], list[2]) || into(t, o, list[2], list[0]) || !lighter(t, o, list[1], list[0]) || lighter(t, o, list[0], list[1]) {
			t.Fatal("words or heaps are told otherwise")
		}
		if dividesIt(t, rows[0], rows[1]) || !dividesIt(t, rows[0], rows[3]) {
			t.Fatal("rows are told otherwise")
		}
		if !slices.Equal(all(), before) || spare() != [2]int{77, 77} {
			t.Fatal("what was handed in was changed")
		}
		if samples.Shared(slices.Concat([][]int{places, corners, sets}, list, rows)...) {
			t.Fatal("an answer shares memory")
		}
		samples.Spoil(places)
		samples.Spoil(corners)
	}
}
