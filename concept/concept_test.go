package concept

import (
	"math"
	"reflect"
	"slices"
	"testing"

	"hasse/api"
	"hasse/complete"
	"hasse/lattice"
	"hasse/samples"
)

// tried contexts: small ones, all of them, and great ones.
func tried() []api.Context { return append(samples.SmallContexts(), samples.GreatContexts(400)...) }

func has(set, member int) bool { return set>>member&1 == 1 }

// isPart: a set has only what another one has.
func isPart(part, set int) bool { return part|set == set }

// plainMarks by the words of O1: each mark is asked of each thing.
func plainMarks(c api.Context, things int) int {
	marks := 0
	for mark := range c.Marks {
		all := true
		for thing := range c.Things {
			all = all && (!has(things, thing) || has(c.Has[thing], mark))
		}
		if all {
			marks += 1 << mark
		}
	}
	return marks
}

// plainThings by the words of O1.
func plainThings(c api.Context, marks int) int {
	things := 0
	for thing := range c.Things {
		all := true
		for mark := range c.Marks {
			all = all && (!has(marks, mark) || has(c.Has[thing], mark))
		}
		if all {
			things += 1 << thing
		}
	}
	return things
}

// plainConcepts by the words of O2: each set of things is tried with each set of marks.
func plainConcepts(c api.Context) [][2]int {
	marksOf, thingsOf := make([]int, 1<<c.Things), make([]int, 1<<c.Marks)
	for things := range marksOf {
		marksOf[things] = plainMarks(c, things)
	}
	for marks := range thingsOf {
		thingsOf[marks] = plainThings(c, marks)
	}
	var concepts [][2]int
	for things := range marksOf {
		for marks := range thingsOf {
			if marksOf[things] == marks && thingsOf[marks] == things {
				concepts = append(concepts, [2]int{things, marks})
			}
		}
	}
	return concepts
}

// isAhead by the words of O3: the first set lacks the least mark in which they differ.
func isAhead(a, b int) bool {
	for mark := range api.MaxPoints {
		if has(a, mark) != has(b, mark) {
			return !has(a, mark)
		}
	}
	return false
}

// inTheirRow: sets of marks, by the words of O3.
func inTheirRow(concepts [][2]int) []int {
	var row []int
	for _, concept := range concepts {
		row = append(row, concept[1])
	}
	slices.SortFunc(row, func(a, b int) int {
		if isAhead(a, b) {
			return -1
		}
		return 1
	})
	return row
}

func isNothing(l api.Lattice) bool { return l.N == 0 && l.Meet == nil && l.Join == nil }

// things of concepts.
func things(concepts [][2]int) []int {
	var sets []int
	for _, concept := range concepts {
		sets = append(sets, concept[0])
	}
	return sets
}

func TestO1Check(t *testing.T) {
	for _, c := range tried() {
		if err := Check(c); err != api.OK {
			t.Fatalf("Check(%v) = %d", c, err)
		}
	}
	for _, c := range []api.Context{{}, {Has: []int{}}, {Marks: 10}, {Things: 10, Has: make([]int, 10)}, {Things: 1, Marks: 10, Has: []int{1023}}} {
		if err := Check(c); err != api.OK {
			t.Errorf("Check(%v) = %d", c, err)
		}
	}
	for _, w := range samples.WrongContexts() {
		if err := Check(w.Context); err != w.Err {
			t.Errorf("Check(%v) = %d, want %d", w.Context, err, w.Err)
		}
	}
}

func TestO1AllOthersTellCheckFirst(t *testing.T) {
	for _, w := range samples.WrongContexts() {
		for _, set := range []int{0, 1, -1, 1 << 10, 1 << 20, math.MaxInt, math.MinInt} {
			if got, err := Marks(w.Context, set); err != w.Err || got != 0 {
				t.Errorf("Marks(%v, %d) = %d, error %d, want error %d", w.Context, set, got, err, w.Err)
			}
			if got, err := Things(w.Context, set); err != w.Err || got != 0 {
				t.Errorf("Things(%v, %d) = %d, error %d, want error %d", w.Context, set, got, err, w.Err)
			}
			if got, err := Next(w.Context, set); err != w.Err || got != 0 {
				t.Errorf("Next(%v, %d) = %d, error %d, want error %d", w.Context, set, got, err, w.Err)
			}
		}
		if got, err := Concepts(w.Context); err != w.Err || got != nil {
			t.Errorf("Concepts(%v) = %v, error %d, want error %d", w.Context, got, err, w.Err)
		}
		if got, err := Lattice(w.Context); err != w.Err || !isNothing(got) {
			t.Errorf("Lattice(%v) = %v, error %d, want error %d", w.Context, got, err, w.Err)
		}
	}
}

func TestO1MarksAndThings(t *testing.T) {
	c := samples.ContextOf(4, 3, 6, 7)
	for _, w := range []struct {
		c            api.Context
		things, want int
	}{
		{api.Context{}, 0, 0},
		{samples.ContextOf(3), 0, 7},
		{samples.ContextOf(10, 1), 0, 1023},
		{samples.ContextOf(0, 0, 0), 3, 0},
		{c, 0, 15}, {c, 1, 3}, {c, 2, 6}, {c, 3, 2}, {c, 4, 7}, {c, 5, 3}, {c, 6, 6}, {c, 7, 2},
	} {
		if got, err := Marks(w.c, w.things); err != api.OK || got != w.want {
			t.Errorf("Marks(%v, %d) = %d, error %d, want %d", w.c, w.things, got, err, w.want)
		}
	}
	for _, w := range []struct {
		c           api.Context
		marks, want int
	}{
		{api.Context{}, 0, 0},
		{samples.ContextOf(3), 5, 0},
		{samples.ContextOf(0, make([]int, 10)...), 0, 1023},
		{c, 0, 7}, {c, 1, 5}, {c, 2, 7}, {c, 4, 6}, {c, 8, 0}, {c, 5, 4}, {c, 6, 6}, {c, 7, 4}, {c, 15, 0},
	} {
		if got, err := Things(w.c, w.marks); err != api.OK || got != w.want {
			t.Errorf("Things(%v, %d) = %d, error %d, want %d", w.c, w.marks, got, err, w.want)
		}
	}
}

func TestO1MarksAndThingsByTheirWords(t *testing.T) {
	for _, c := range tried() {
		for set := range 1 << c.Things {
			if got, err := Marks(c, set); err != api.OK || got != plainMarks(c, set) {
				t.Fatalf("Marks(%v, %d) = %d, error %d, want %d", c, set, got, err, plainMarks(c, set))
			}
		}
		for set := range 1 << c.Marks {
			if got, err := Things(c, set); err != api.OK || got != plainThings(c, set) {
				t.Fatalf("Things(%v, %d) = %d, error %d, want %d", c, set, got, err, plainThings(c, set))
			}
		}
	}
}

// beyond: what has something that is none of n.
func beyond(n int) []int {
	return []int{-1, -2, 1 << n, 1<<n + 1, 3 << n, 1 << 40, math.MaxInt, math.MinInt}
}

func TestO1O3WhatIsNone(t *testing.T) {
	for _, c := range tried() {
		for _, set := range beyond(c.Things) {
			if got, err := Marks(c, set); err != api.ErrRange || got != 0 {
				t.Fatalf("Marks(%v, %d) = %d, error %d", c, set, got, err)
			}
		}
		for _, set := range beyond(c.Marks) {
			if got, err := Things(c, set); err != api.ErrRange || got != 0 {
				t.Fatalf("Things(%v, %d) = %d, error %d", c, set, got, err)
			}
			if got, err := Next(c, set); err != api.ErrRange || got != 0 {
				t.Fatalf("Next(%v, %d) = %d, error %d", c, set, got, err)
			}
		}
	}
}

func TestO2Concepts(t *testing.T) {
	for _, w := range []struct {
		name string
		c    api.Context
		want [][2]int
	}{
		{"nothing", api.Context{}, [][2]int{{0, 0}}},
		{"nothing, told otherwise", api.Context{Has: []int{}}, [][2]int{{0, 0}}},
		{"no things", samples.ContextOf(2), [][2]int{{0, 3}}},
		{"no marks", samples.ContextOf(0, 0, 0), [][2]int{{3, 0}}},
		{"a thing without its mark", samples.ContextOf(1, 0), [][2]int{{0, 1}, {1, 0}}},
		{"a thing with its mark", samples.ContextOf(1, 1), [][2]int{{1, 1}}},
		{"two things alike", samples.ContextOf(2, 1, 1), [][2]int{{0, 3}, {3, 1}}},
		{"two marks alike", samples.ContextOf(2, 0, 3), [][2]int{{2, 3}, {3, 0}}},
		{"each its own", samples.JustOne(3), [][2]int{{0, 7}, {1, 1}, {2, 2}, {4, 4}, {7, 0}}},
		{"all but one", samples.AllButOne(3), [][2]int{{0, 7}, {1, 6}, {2, 5}, {3, 4}, {4, 3}, {5, 2}, {6, 1}, {7, 0}}},
		{"steps", samples.Steps(3), [][2]int{{0, 7}, {4, 3}, {6, 1}, {7, 0}}},
		{"some", samples.ContextOf(4, 3, 6, 7), [][2]int{{0, 15}, {4, 7}, {5, 3}, {6, 6}, {7, 2}}},
	} {
		if got, err := Concepts(w.c); err != api.OK || !slices.Equal(got, w.want) {
			t.Errorf("%s: %v, error %d, want %v", w.name, got, err, w.want)
		}
	}
}

func TestO2ConceptsByTheirWords(t *testing.T) {
	for _, c := range tried() {
		if got, err := Concepts(c); err != api.OK || !slices.Equal(got, plainConcepts(c)) {
			t.Fatalf("Concepts(%v) = %v, error %d, want %v", c, got, err, plainConcepts(c))
		}
	}
}

func TestO2Lattice(t *testing.T) {
	for _, w := range []struct {
		name string
		c    api.Context
		want api.Lattice
	}{
		{"nothing", api.Context{}, samples.ChainLattice(1)},
		{"no things", samples.ContextOf(2), samples.ChainLattice(1)},
		{"no marks", samples.ContextOf(0, 0, 0), samples.ChainLattice(1)},
		{"a thing without its mark", samples.ContextOf(1, 0), samples.ChainLattice(2)},
		{"each its own", samples.JustOne(3), samples.StarLattice(5)},
		{"all but one", samples.AllButOne(2), samples.TimesLattice(samples.ChainLattice(2), samples.ChainLattice(2))},
		{"steps", samples.Steps(10), samples.ChainLattice(11)},
		{"four and five steps", samples.Joined(samples.Steps(4), samples.Steps(5)), samples.TimesLattice(samples.ChainLattice(6), samples.ChainLattice(5))},
	} {
		if got, err := Lattice(w.c); err != api.OK || !reflect.DeepEqual(got, w.want) {
			t.Errorf("%s: %v, error %d, want %v", w.name, got, err, w.want)
		}
	}
}

// isTheirs: of each two concepts the tables have the greatest one below both and the least one above both, one being below another if its things are some of that one's.
func isTheirs(l api.Lattice, concepts [][2]int) bool {
	upTo := func(x, y int) bool { return isPart(concepts[x][0], concepts[y][0]) }
	is := l.N == len(concepts) && len(l.Meet) == l.N && len(l.Join) == l.N
	for x := 0; is && x < l.N; x++ {
		is = len(l.Meet[x]) == l.N && len(l.Join[x]) == l.N
		for y := 0; is && y < l.N; y++ {
			meet, join := l.Meet[x][y], l.Join[x][y]
			is = upTo(meet, x) && upTo(meet, y) && upTo(x, join) && upTo(y, join)
			for z := range l.N {
				is = is && (!upTo(z, x) || !upTo(z, y) || upTo(z, meet))
				is = is && (!upTo(x, z) || !upTo(y, z) || upTo(join, z))
			}
		}
	}
	return is
}

func TestO2LatticeByItsWords(t *testing.T) {
	fit := 0
	for _, c := range tried() {
		concepts := plainConcepts(c)
		l, err := Lattice(c)
		if len(concepts) > api.MaxLattice {
			if err != api.ErrMany || !isNothing(l) {
				t.Fatalf("Lattice(%v) = %v, error %d, of %d concepts", c, l, err, len(concepts))
			}
			continue
		}
		fit++
		if err != api.OK || !isTheirs(l, concepts) || lattice.Check(l) != api.OK {
			t.Fatalf("Lattice(%v) = %v, error %d", c, l, err)
		}
	}
	if many := len(tried()) - fit; fit < 700 || many < 10 {
		t.Errorf("%d had room, %d had none", fit, many)
	}
}

func TestO2MaxLattice(t *testing.T) {
	just := samples.Joined(samples.AllButOne(3), samples.Steps(4))
	for _, w := range []struct {
		c     api.Context
		count int
		want  api.Errno
	}{
		{just, 40, api.OK},
		{samples.Turned(just), 40, api.OK},
		{samples.Capped(just), 41, api.ErrMany},
		{samples.Turned(samples.Capped(just)), 41, api.ErrMany},
		{samples.Joined(samples.AllButOne(1), samples.AllButOne(4)), 32, api.OK},
		{samples.AllButOne(6), 64, api.ErrMany},
		{samples.AllButOne(10), 1024, api.ErrMany},
	} {
		concepts, err := Concepts(w.c)
		if err != api.OK || len(concepts) != w.count {
			t.Errorf("%v has %d concepts, error %d, want %d", w.c, len(concepts), err, w.count)
		}
		l, err := Lattice(w.c)
		if err != w.want || err == api.OK && !isTheirs(l, concepts) || err != api.OK && !isNothing(l) {
			t.Errorf("Lattice(%v) has %d, error %d, want error %d", w.c, l.N, err, w.want)
		}
	}
}

func TestO3Next(t *testing.T) {
	for _, w := range []struct {
		name string
		c    api.Context
		// row: what Next tells, again and again, from no marks on.
		row []int
	}{
		{"nothing", api.Context{}, nil},
		{"no marks", samples.ContextOf(0, 0, 0), nil},
		{"no things", samples.ContextOf(2), []int{3}},
		{"a thing without its mark", samples.ContextOf(1, 0), []int{1}},
		{"a thing with its mark", samples.ContextOf(1, 1), []int{1}},
		{"each its own", samples.JustOne(3), []int{4, 2, 1, 7}},
		{"all but one", samples.AllButOne(3), []int{4, 2, 6, 1, 5, 3, 7}},
		{"steps", samples.Steps(4), []int{1, 3, 7, 15}},
		{"some", samples.ContextOf(4, 3, 6, 7), []int{2, 6, 3, 7, 15}},
	} {
		marks := 0
		for _, want := range w.row {
			got, err := Next(w.c, marks)
			if err != api.OK || got != want {
				t.Fatalf("%s: behind %d comes %d, error %d, want %d", w.name, marks, got, err, want)
			}
			marks = got
		}
		if got, err := Next(w.c, marks); err != api.ErrNone || got != 0 {
			t.Errorf("%s: behind %d comes %d, error %d", w.name, marks, got, err)
		}
	}
	// What is handed in need be no concept's.
	c := samples.ContextOf(4, 3, 6, 7)
	for _, w := range [][2]int{{0, 2}, {8, 2}, {4, 2}, {12, 2}, {10, 6}, {14, 3}, {1, 3}, {9, 3}, {5, 3}, {13, 3}, {11, 7}} {
		if got, err := Next(c, w[0]); err != api.OK || got != w[1] {
			t.Errorf("behind %d comes %d, error %d, want %d", w[0], got, err, w[1])
		}
	}
}

func TestO3NextByItsWords(t *testing.T) {
	for _, c := range tried() {
		row := inTheirRow(plainConcepts(c))
		for marks := range 1 << c.Marks {
			want, wantErr := 0, api.ErrNone
			if i := slices.IndexFunc(row, func(set int) bool { return isAhead(marks, set) }); i >= 0 {
				want, wantErr = row[i], api.OK
			}
			if got, err := Next(c, marks); err != wantErr || got != want {
				t.Fatalf("Next(%v, %d) = %d, error %d, want %d, error %d", c, marks, got, err, want, wantErr)
			}
		}
	}
}

func TestO4WhoHasMoreMarksAreFewerThings(t *testing.T) {
	for _, c := range tried() {
		for less := range 1 << c.Marks {
			few, _ := Things(c, less)
			for mark := range c.Marks {
				if got, _ := Things(c, less|1<<mark); !isPart(got, few) {
					t.Fatalf("%v: with %d are %d, and with %d more %d", c, less, few, mark, got)
				}
			}
		}
		concepts, err := Concepts(c)
		if err != api.OK {
			t.Fatalf("Concepts(%v): error %d", c, err)
		}
		for _, a := range concepts {
			for _, b := range concepts {
				if isPart(a[0], b[0]) != isPart(b[1], a[1]) {
					t.Fatalf("%v has the concepts %v and %v", c, a, b)
				}
			}
		}
	}
}

func TestO4MeetHasTheThingsAndJoinTheMarksThatBothHave(t *testing.T) {
	for _, c := range tried() {
		l, err := Lattice(c)
		if err == api.ErrMany {
			continue
		}
		concepts, _ := Concepts(c)
		for x, a := range concepts {
			for y, b := range concepts {
				if concepts[l.Meet[x][y]][0] != a[0]&b[0] || concepts[l.Join[x][y]][1] != a[1]&b[1] {
					t.Fatalf("Lattice(%v) = %v: %v and %v have the Meet %d and the Join %d", c, l, a, b, l.Meet[x][y], l.Join[x][y])
				}
			}
		}
	}
}

func TestO4NextTellsEachConceptOnce(t *testing.T) {
	for _, c := range tried() {
		// The first set is no marks, or if they are no concept's, what comes behind them.
		things, _ := Things(c, 0)
		marks, _ := Marks(c, things)
		if marks != 0 {
			if first, err := Next(c, 0); err != api.OK || first != marks {
				t.Fatalf("Next(%v, 0) = %d, error %d, want %d", c, first, err, marks)
			}
		}
		var met []int
		for err := api.OK; err == api.OK; marks, err = Next(c, marks) {
			if len(met) > 1024 {
				t.Fatalf("%v: Next does not end", c)
			}
			met = append(met, marks)
		}
		if want := inTheirRow(plainConcepts(c)); !slices.Equal(met, want) {
			t.Fatalf("%v: Next tells %v, want %v", c, met, want)
		}
	}
}

// ofPoints: each has as marks those that are it or above it.
func ofPoints(o api.Order) api.Context {
	has := make([]int, o.N)
	for lower := range o.N {
		for upper := range o.N {
			if lower == upper || samples.IsBelow(o, lower, upper) {
				has[lower] += 1 << upper
			}
		}
	}
	return samples.ContextOf(o.N, has...)
}

func TestO4ConceptsOfPointsAreCuts(t *testing.T) {
	orders := append(samples.SmallOrders(), samples.GreatOrders(200)...)
	for _, o := range append(orders, samples.Apart(), samples.Rising(), samples.Falling(), samples.Storeys()) {
		cuts, err := complete.Cuts(o)
		if err != api.OK {
			t.Fatalf("Cuts(%v): error %d", o, err)
		}
		concepts, err := Concepts(ofPoints(o))
		if err != api.OK || !slices.Equal(things(concepts), cuts) {
			t.Fatalf("%v has the concepts %v, error %d, and the cuts %v", o, concepts, err, cuts)
		}
		full, _, err := complete.Fill(o)
		l, itsErr := Lattice(ofPoints(o))
		if err != itsErr || !reflect.DeepEqual(l, full) {
			t.Fatalf("%v has the lattice %v, and is filled up to %v", o, l, full)
		}
	}
}

func TestEachLatticeIsOneOfConcepts(t *testing.T) {
	lattices := samples.SmallLattices()
	for _, l := range samples.GreatLattices(300) {
		if l.N <= api.MaxPoints {
			lattices = append(lattices, l)
		}
	}
	for _, l := range lattices {
		has := make([]int, l.N)
		for x := range l.N {
			for y := range l.N {
				if l.Join[x][y] == y {
					has[x] += 1 << y
				}
			}
		}
		c := samples.ContextOf(l.N, has...)
		got, err := Lattice(c)
		if err != api.OK || got.N != l.N {
			t.Fatalf("Lattice(%v) = %v, error %d", c, got, err)
		}
		// An element is the concept whose things are those up to it.
		concepts, _ := Concepts(c)
		places := make([]int, l.N)
		for x := range l.N {
			things, _ := Things(c, 1<<x)
			places[x] = slices.IndexFunc(concepts, func(concept [2]int) bool { return concept[0] == things })
		}
		for x := range l.N {
			for y := range l.N {
				if got.Meet[places[x]][places[y]] != places[l.Meet[x][y]] || got.Join[places[x]][places[y]] != places[l.Join[x][y]] {
					t.Fatalf("%v is not %v by the places %v", l, got, places)
				}
			}
		}
	}
	if len(lattices) < 50 {
		t.Errorf("only %d lattices were tried", len(lattices))
	}
}

func TestTurnedOverThingsAreMarks(t *testing.T) {
	for _, c := range tried() {
		concepts, _ := Concepts(c)
		var want [][2]int
		for _, concept := range concepts {
			want = append(want, [2]int{concept[1], concept[0]})
		}
		slices.SortFunc(want, func(a, b [2]int) int { return a[0] - b[0] })
		if got, err := Concepts(samples.Turned(c)); err != api.OK || !slices.Equal(got, want) {
			t.Fatalf("%v has the concepts %v, turned over %v, error %d", c, concepts, got, err)
		}
	}
}

// spoil writes over a list of concepts and all the room behind it.
func spoil(concepts [][2]int) {
	whole := concepts[:cap(concepts)]
	for i := range whole {
		whole[i] = [2]int{-5, -5}
	}
}

func TestP2P3OnlyReadAndTheSameEachTime(t *testing.T) {
	for _, c := range []api.Context{{}, samples.ContextOf(1, 0), samples.ContextOf(4, 3, 6, 7), samples.JustOne(10), samples.Steps(10), samples.AllButOne(5)} {
		list, room := samples.Roomy(c.Has...)
		roomy := api.Context{Things: c.Things, Marks: c.Marks, Has: list}
		before := slices.Clone(room)
		want, row := plainConcepts(c), inTheirRow(plainConcepts(c))
		for range 2 {
			concepts, err := Concepts(roomy)
			if err != api.OK || !slices.Equal(concepts, want) {
				t.Fatalf("Concepts(%v) = %v, error %d, want %v", c, concepts, err, want)
			}
			spoil(concepts)
			l, err := Lattice(roomy)
			if err != api.OK || !isTheirs(l, want) {
				t.Fatalf("Lattice(%v) = %v, error %d", c, l, err)
			}
			if samples.Shared(append(samples.Rows(l), room)...) {
				t.Fatalf("the tables of %v share memory", c)
			}
			for _, line := range samples.Rows(l) {
				samples.Spoil(line)
			}
			for i := range row[1:] {
				if got, err := Next(roomy, row[i]); err != api.OK || got != row[i+1] {
					t.Fatalf("Next(%v, %d) = %d, error %d", c, row[i], got, err)
				}
			}
			for _, concept := range want {
				marks, _ := Marks(roomy, concept[0])
				things, _ := Things(roomy, concept[1])
				if marks != concept[1] || things != concept[0] {
					t.Fatalf("%v: %v has the marks %d and the things %d", c, concept, marks, things)
				}
			}
		}
		if !slices.Equal(room, before) {
			t.Errorf("%v was changed: %v", c, room)
		}
	}
}
