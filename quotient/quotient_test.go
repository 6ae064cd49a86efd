package quotient

import (
	"math"
	"reflect"
	"slices"
	"testing"

	"hasse/api"
	"hasse/lattice"
	"hasse/samples"
)

// parted: all lists of classes of n elements, as lists are compared.
func parted(n int) [][]int {
	lists := [][]int{{0}}
	for range n - 1 {
		var longer [][]int
		for _, list := range lists {
			for class := range slices.Max(list) + 2 {
				longer = append(longer, append(slices.Clone(list), class))
			}
		}
		lists = longer
	}
	return lists
}

// maybeParted: may each number of a list stand where it stands? By the words of chapter 19.
func maybeParted(list []int) bool {
	for x, class := range list {
		first := x == 0 && class == 0
		known := slices.Contains(list[:x], class)
		next := x > 0 && class == slices.Max(list[:x])+1
		if !first && !known && !next {
			return false
		}
	}
	return true
}

// hasOnly: one list has only pairs in one class of which the other one has it, too.
func hasOnly(few, many []int) bool {
	only := true
	for x := range few {
		for y := range few {
			only = only && (few[x] != few[y] || many[x] == many[y])
		}
	}
	return only
}

// plainCongruent by the words of chapter 19.
func plainCongruent(l api.Lattice, classes []int) bool {
	congruent := true
	for x := range l.N {
		for y := range l.N {
			for z := range l.N {
				if classes[x] == classes[y] {
					congruent = congruent && classes[l.Meet[x][z]] == classes[l.Meet[y][z]] && classes[l.Join[x][z]] == classes[l.Join[y][z]]
				}
			}
		}
	}
	return congruent
}

// plainAll: each way to part the elements is tried.
func plainAll(l api.Lattice) [][]int {
	var all [][]int
	for _, classes := range parted(l.N) {
		if plainCongruent(l, classes) {
			all = append(all, classes)
		}
	}
	return all
}

// plainLeast by the words of S1, of all congruences: that of which each other one with both in one class has the pairs. only tells which has only pairs of which.
func plainLeast(all [][]int, only [][]bool, x, y int) []int {
	for i, classes := range all {
		least := classes[x] == classes[y]
		for k, other := range all {
			least = least && (other[x] != other[y] || only[i][k])
		}
		if least {
			return classes
		}
	}
	return nil
}

// grown: pairs in one class, more and more of them until nothing more must be; told by a table of pairs.
func grown(l api.Lattice, same [][]bool) []int {
	for more := true; more; {
		more = false
		add := func(x, y int) {
			if !same[x][y] {
				same[x][y], same[y][x], more = true, true, true
			}
		}
		for x := range l.N {
			add(x, x)
			for y := range l.N {
				for z := 0; same[x][y] && z < l.N; z++ {
					add(l.Meet[x][z], l.Meet[y][z])
					add(l.Join[x][z], l.Join[y][z])
					if same[y][z] {
						add(x, z)
					}
				}
			}
		}
	}
	var classes []int
	begun := 0
	for x := range l.N {
		first := slices.Index(same[x], true)
		if first == x {
			classes = append(classes, begun)
			begun++
		} else {
			classes = append(classes, classes[first])
		}
	}
	return classes
}

// nothing: a table in which no pair is in one class yet.
func nothing(n int) [][]bool {
	same := make([][]bool, n)
	for x := range same {
		same[x] = make([]bool, n)
	}
	return same
}

// grownLeast congruence of two elements of a lattice of any size.
func grownLeast(l api.Lattice, x, y int) []int {
	same := nothing(l.N)
	same[x][y], same[y][x] = true, true
	return grown(l, same)
}

// grownAll: what is known is put together with the least congruences of two elements each, as long as something new comes of it and there are not too many.
func grownAll(l api.Lattice) [][]int {
	apart := make([]int, l.N)
	for x := range apart {
		apart[x] = x
	}
	all := [][]int{apart}
	add := func(classes []int) {
		if !slices.ContainsFunc(all, func(known []int) bool { return slices.Equal(known, classes) }) {
			all = append(all, classes)
		}
	}
	for x := range l.N {
		for y := 0; y < x && len(all) <= api.MaxLattice; y++ {
			add(grownLeast(l, x, y))
		}
	}
	for i := 0; i < len(all); i++ {
		for k := 0; k < i && len(all) <= api.MaxLattice; k++ {
			same := nothing(l.N)
			for x := range l.N {
				for y := range l.N {
					same[x][y] = all[i][x] == all[i][y] || all[k][x] == all[k][y]
				}
			}
			add(grown(l, same))
		}
	}
	slices.SortFunc(all, slices.Compare)
	return all
}

// framed: a lattice between a new least and a new greatest element, and beside all of it one more. To take two of what is framed together changes nothing else, and to take any others together leaves two classes at most: so there are three congruences more.
func framed(l api.Lattice) api.Lattice {
	n := l.N + 3
	table := func(inner [][]int, near, far int) [][]int {
		rows := make([][]int, n)
		for x := range n {
			rows[x] = slices.Repeat([]int{far}, n)
			for y := range n {
				switch {
				case x == y || y == near:
					rows[x][y] = x
				case x == near:
					rows[x][y] = y
				case x > 0 && x <= l.N && y > 0 && y <= l.N:
					rows[x][y] = inner[x-1][y-1] + 1
				}
			}
		}
		return rows
	}
	return api.Lattice{N: n, Meet: table(l.Meet, n-1, 0), Join: table(l.Join, 0, n-1)}
}

// pentagon: 1 below 2, 3 beside both, and 0 and 4 the ends.
func pentagon() api.Lattice { return framed(samples.ChainLattice(2)) }

// forty and fortyOne: lattices with just so many congruences.
func forty() api.Lattice { return samples.TimesLattice(pentagon(), samples.ChainLattice(4)) }

func fortyOne() api.Lattice {
	return framed(samples.TimesLattice(samples.ChainLattice(2), framed(samples.ChainLattice(5))))
}

// few: lattices of all sizes, among them some with just as many congruences as there may be, and one more.
func few() []api.Lattice {
	draw := new(samples.Draw)
	lattices := []api.Lattice{pentagon(), forty(), fortyOne(), framed(forty()), framed(samples.StarLattice(37)), samples.TimesLattice(pentagon(), pentagon()), samples.TimesLattice(samples.StarLattice(5), pentagon())}
	for _, l := range slices.Clone(lattices) {
		lattices = append(lattices, samples.RenumberedLattice(l, draw))
	}
	return append(lattices, samples.GreatLattices(40)...)
}

func TestS1Check(t *testing.T) {
	four := samples.StarLattice(4)
	for _, c := range []struct {
		l       api.Lattice
		classes []int
		want    api.Errno
	}{
		{samples.ChainLattice(1), []int{0}, api.OK},
		{samples.ChainLattice(1), nil, api.ErrForm},
		{samples.ChainLattice(1), []int{}, api.ErrForm},
		{samples.ChainLattice(1), []int{0, 0}, api.ErrForm},
		{samples.ChainLattice(1), []int{1}, api.ErrRange},
		{samples.ChainLattice(1), []int{-1}, api.ErrRange},
		{four, []int{0, 0, 0, 0}, api.OK},
		{four, []int{0, 1, 2, 3}, api.OK},
		{four, []int{0, 1, 0, 2}, api.OK},
		{four, []int{0, 1, 1, 0}, api.OK},
		{four, []int{0, 0, 1, 2}, api.OK},
		{four, []int{0, 1, 2}, api.ErrForm},
		{four, []int{0, 1, 2, 3, 4}, api.ErrForm},
		{four, []int{7, -1, 9}, api.ErrForm},
		{four, []int{1, 0, 0, 0}, api.ErrRange},
		{four, []int{1, 1, 1, 1}, api.ErrRange},
		{four, []int{0, 2, 1, 1}, api.ErrRange},
		{four, []int{0, 0, 2, 1}, api.ErrRange},
		{four, []int{0, 1, 0, 3}, api.ErrRange},
		{four, []int{0, 1, 2, 4}, api.ErrRange},
		{four, []int{0, 1, 2, -1}, api.ErrRange},
		{four, []int{0, math.MaxInt, 0, 0}, api.ErrRange},
		{four, []int{0, 0, math.MinInt, 0}, api.ErrRange},
		{samples.ChainLattice(40), samples.ChainLattice(40).Join[0], api.OK},
		{samples.ChainLattice(40), append(samples.ChainLattice(39).Join[0], 40), api.ErrRange},
		{samples.ChainLattice(40), samples.ChainLattice(39).Join[0], api.ErrForm},
	} {
		if got := Check(c.l, c.classes); got != c.want {
			t.Errorf("Check of %d elements and %v = %d, want %d", c.l.N, c.classes, got, c.want)
		}
	}
}

func TestS1CheckByItsWords(t *testing.T) {
	for n := 1; n <= 5; n++ {
		l, count := samples.ChainLattice(n), 0
		for _, list := range samples.Maps(n, n+2) {
			for x := range list {
				list[x]--
			}
			want := api.ErrRange
			if maybeParted(list) {
				want = api.OK
				count++
			}
			if got := Check(l, list); got != want {
				t.Fatalf("Check of %d elements and %v = %d, want %d", n, list, got, want)
			}
		}
		if count != len(parted(n)) {
			t.Errorf("of %d elements: %d lists of classes, want %d", n, count, len(parted(n)))
		}
	}
}

func TestS1S2OfNamedLattices(t *testing.T) {
	for _, c := range []struct {
		name   string
		l      api.Lattice
		simple bool
		all    [][]int
	}{
		{"one element", samples.ChainLattice(1), false, [][]int{{0}}},
		{"two elements", samples.ChainLattice(2), true, [][]int{{0, 0}, {0, 1}}},
		{"three in a chain", samples.ChainLattice(3), false, [][]int{{0, 0, 0}, {0, 0, 1}, {0, 1, 1}, {0, 1, 2}}},
		{"a square", samples.StarLattice(4), false, [][]int{{0, 0, 0, 0}, {0, 0, 1, 1}, {0, 1, 0, 1}, {0, 1, 2, 3}}},
		{"a diamond", samples.StarLattice(5), true, [][]int{{0, 0, 0, 0, 0}, {0, 1, 2, 3, 4}}},
		{"a pentagon", pentagon(), false, [][]int{{0, 0, 0, 0, 0}, {0, 0, 0, 1, 1}, {0, 1, 1, 0, 1}, {0, 1, 1, 2, 3}, {0, 1, 2, 3, 4}}},
		{"a diamond framed", framed(samples.StarLattice(5)), false, [][]int{{0, 0, 0, 0, 0, 0, 0, 0}, {0, 0, 0, 0, 0, 0, 1, 1}, {0, 1, 1, 1, 1, 1, 0, 1}, {0, 1, 1, 1, 1, 1, 2, 3}, {0, 1, 2, 3, 4, 5, 6, 7}}},
		{"the greatest star", samples.StarLattice(40), true, [][]int{make([]int, 40), samples.ChainLattice(40).Join[0]}},
	} {
		if all, err := All(c.l); err != api.OK || !reflect.DeepEqual(all, c.all) {
			t.Errorf("%s: all are %v, error %d", c.name, all, err)
		}
		if simple, err := Simple(c.l); err != api.OK || simple != c.simple {
			t.Errorf("%s: simple %v, error %d", c.name, simple, err)
		}
	}
}

func TestS1Least(t *testing.T) {
	for _, c := range []struct {
		name string
		l    api.Lattice
		x, y int
		want []int
	}{
		{"an element and itself", samples.ChainLattice(3), 1, 1, []int{0, 1, 2}},
		{"one element alone", samples.ChainLattice(1), 0, 0, []int{0}},
		{"neighbours", samples.ChainLattice(4), 1, 2, []int{0, 1, 1, 2}},
		{"the ends of a chain", samples.ChainLattice(4), 3, 0, []int{0, 0, 0, 0}},
		{"what is between goes along", samples.ChainLattice(5), 1, 3, []int{0, 1, 1, 1, 2}},
		{"a side of a square", samples.StarLattice(4), 0, 1, []int{0, 0, 1, 1}},
		{"two that know nothing of one another", samples.StarLattice(4), 1, 2, []int{0, 0, 0, 0}},
		{"two of a diamond", samples.StarLattice(5), 0, 3, []int{0, 0, 0, 0, 0}},
		{"the middle of a pentagon", pentagon(), 2, 1, []int{0, 1, 1, 2, 3}},
		{"the foot of a pentagon", pentagon(), 0, 1, []int{0, 0, 0, 1, 1}},
		{"the head of a pentagon", pentagon(), 2, 4, []int{0, 1, 1, 0, 1}},
		{"the other side of a pentagon", pentagon(), 0, 3, []int{0, 1, 1, 0, 1}},
	} {
		if got, err := Least(c.l, c.x, c.y); err != api.OK || !slices.Equal(got, c.want) {
			t.Errorf("%s: %v, error %d, want %v", c.name, got, err, c.want)
		}
		if got, err := Least(c.l, c.y, c.x); err != api.OK || !slices.Equal(got, c.want) {
			t.Errorf("%s, the other way round: %v, error %d, want %v", c.name, got, err, c.want)
		}
	}
}

func TestS1LeastOfWhatIsNoElement(t *testing.T) {
	for _, l := range []api.Lattice{samples.ChainLattice(1), samples.StarLattice(5), samples.ChainLattice(40)} {
		for _, wrong := range []int{-1, l.N, l.N + 1, math.MinInt, math.MaxInt} {
			for _, other := range []int{0, l.N - 1, wrong} {
				for _, p := range [2][2]int{{wrong, other}, {other, wrong}} {
					if got, err := Least(l, p[0], p[1]); err != api.ErrRange || got != nil {
						t.Errorf("Least of %d elements, %v = %v, error %d", l.N, p, got, err)
					}
				}
			}
		}
	}
}

// isTaken: of classes Congruent and By answer what the words say.
func isTaken(t *testing.T, l api.Lattice, classes []int) bool {
	t.Helper()
	want := plainCongruent(l, classes)
	if congruent, err := Congruent(l, classes); err != api.OK || congruent != want {
		t.Fatalf("Congruent(%v, %v) = %v, error %d", l, classes, congruent, err)
	}
	q, err := By(l, classes)
	if !want {
		if err != api.ErrState || !reflect.DeepEqual(q, api.Lattice{}) {
			t.Fatalf("By(%v, %v) = %v, error %d", l, classes, q, err)
		}
		return false
	}
	if err != api.OK || q.N != slices.Max(classes)+1 || lattice.Check(q) != api.OK || !samples.IsLattice(q) {
		t.Fatalf("By(%v, %v) = %v, error %d", l, classes, q, err)
	}
	for x := range l.N {
		for y := range l.N {
			if q.Meet[classes[x]][classes[y]] != classes[l.Meet[x][y]] || q.Join[classes[x]][classes[y]] != classes[l.Join[x][y]] {
				t.Fatalf("By(%v, %v) = %v: %d and %d come together elsewhere", l, classes, q, x, y)
			}
		}
	}
	return true
}

// isTold: All, Simple and Least, of great lattices that of some pairs, are as they must be, if these are all congruences.
func isTold(t *testing.T, l api.Lattice, all [][]int) {
	t.Helper()
	if simple, err := Simple(l); err != api.OK || simple != (len(all) == 2) {
		t.Fatalf("Simple(%v) = %v, error %d, but all are %v", l, simple, err, all)
	}
	got, err := All(l)
	if len(all) > api.MaxLattice {
		if err != api.ErrMany || got != nil {
			t.Fatalf("All(%v) = %v, error %d, want error %d", l, got, err, api.ErrMany)
		}
		return
	}
	if err != api.OK || !reflect.DeepEqual(got, all) {
		t.Fatalf("All(%v) = %v, error %d, want %v", l, got, err, all)
	}
	only := make([][]bool, len(all))
	for i, few := range all {
		for _, many := range all {
			only[i] = append(only[i], hasOnly(few, many))
		}
	}
	for x := range l.N {
		for y := x % (1 + l.N/8); y < l.N; y += 1 + l.N/8 {
			want := plainLeast(all, only, x, y)
			if least, err := Least(l, x, y); err != api.OK || !slices.Equal(least, want) {
				t.Fatalf("Least(%v, %d, %d) = %v, error %d, want %v", l, x, y, least, err, want)
			}
		}
	}
}

func TestS1S2ByTheirWords(t *testing.T) {
	kinds := map[bool]int{}
	simple, many := 0, 0
	for _, l := range samples.SmallLattices() {
		all := plainAll(l)
		isTold(t, l, all)
		if len(all) == 2 {
			simple++
		}
		if len(all) > api.MaxLattice {
			many++
		}
		if l.N == 7 && kinds[false] > 50000 {
			continue
		}
		for _, classes := range parted(l.N) {
			kinds[isTaken(t, l, classes)]++
		}
	}
	if kinds[true] < 800 || kinds[false] < 50000 || simple < 10 || many != 2 {
		t.Errorf("congruences and others: %v; %d lattices are simple, %d have too many", kinds, simple, many)
	}
}

func TestS1S2OfGreatLattices(t *testing.T) {
	draw := new(samples.Draw)
	told, many, others := 0, 0, 0
	for _, l := range few() {
		all := grownAll(l)
		isTold(t, l, all)
		if len(all) > api.MaxLattice {
			many++
		} else {
			told++
		}
		for _, classes := range all[:min(len(all), 12)] {
			if !isTaken(t, l, classes) {
				t.Fatalf("%v of %v is no congruence", classes, l)
			}
		}
		for range 8 {
			x, y := draw.Next(l.N), draw.Next(l.N)
			least, err := Least(l, x, y)
			if err != api.OK || !slices.Equal(least, grownLeast(l, x, y)) {
				t.Fatalf("Least(%v, %d, %d) = %v, error %d, want %v", l, x, y, least, err, grownLeast(l, x, y))
			}
			changed := slices.Clone(least)
			changed[draw.Next(l.N)] = draw.Next(slices.Max(least) + 1)
			if maybeParted(changed) && !isTaken(t, l, changed) {
				others++
			}
		}
	}
	if told < 20 || many < 8 || others < 30 {
		t.Errorf("%d lattices with few congruences, %d with many, %d classes that are no congruence", told, many, others)
	}
}

func TestS1HowManyCongruences(t *testing.T) {
	five, six := samples.ChainLattice(5), samples.ChainLattice(6)
	two := samples.ChainLattice(2)
	cube := samples.TimesLattice(samples.TimesLattice(two, two), two)
	for _, c := range []struct {
		name string
		l    api.Lattice
		want int
	}{
		{"five in a chain", five, 16},
		{"six in a chain", six, 32},
		{"seven in a chain", samples.ChainLattice(7), 64},
		{"forty in a chain", samples.ChainLattice(40), 1 << 39},
		{"a cube", cube, 8},
		{"all sets of five points", samples.TimesLattice(samples.StarLattice(4), cube), 32},
		{"six in a chain, framed", framed(six), 35},
		{"a pentagon beside a chain, as pairs", forty(), 40},
		{"one more", fortyOne(), 41},
		{"forty, framed", framed(forty()), 43},
		{"pairs of pentagons", samples.TimesLattice(pentagon(), pentagon()), 25},
		{"pairs of diamonds and stars", samples.TimesLattice(samples.StarLattice(5), samples.StarLattice(8)), 4},
		{"pairs of chains", samples.TimesLattice(samples.ChainLattice(3), samples.ChainLattice(4)), 32},
		{"pairs of longer chains", samples.TimesLattice(five, samples.ChainLattice(8)), 1 << 11},
	} {
		all, err := All(c.l)
		if c.want > api.MaxLattice {
			if err != api.ErrMany || all != nil {
				t.Errorf("%s: %d congruences, error %d", c.name, len(all), err)
			}
		} else if err != api.OK || len(all) != c.want {
			t.Errorf("%s: %d congruences, error %d, want %d", c.name, len(all), err, c.want)
		}
		if simple, err := Simple(c.l); err != api.OK || simple {
			t.Errorf("%s: simple %v, error %d", c.name, simple, err)
		}
	}
	if got := len(grownAll(fortyOne())); got != 41 {
		t.Errorf("what must have 41 congruences has %d", got)
	}
}

func TestS2By(t *testing.T) {
	for _, c := range []struct {
		name    string
		l       api.Lattice
		classes []int
		want    api.Lattice
	}{
		{"all together", samples.StarLattice(5), []int{0, 0, 0, 0, 0}, samples.ChainLattice(1)},
		{"all apart", samples.StarLattice(5), []int{0, 1, 2, 3, 4}, samples.StarLattice(5)},
		{"a chain gets shorter", samples.ChainLattice(5), []int{0, 1, 1, 2, 2}, samples.ChainLattice(3)},
		{"a pentagon gets a square", pentagon(), []int{0, 1, 1, 2, 3}, samples.StarLattice(4)},
		{"a pentagon gets two", pentagon(), []int{0, 1, 1, 0, 1}, samples.ChainLattice(2)},
		{"numbered the other way round", api.Lattice{N: 3, Meet: samples.ChainLattice(3).Join, Join: samples.ChainLattice(3).Meet}, []int{0, 1, 1}, api.Lattice{N: 2, Meet: [][]int{{0, 1}, {1, 1}}, Join: [][]int{{0, 0}, {0, 1}}}},
	} {
		if got, err := By(c.l, c.classes); err != api.OK || !reflect.DeepEqual(got, c.want) {
			t.Errorf("%s: %v, error %d, want %v", c.name, got, err, c.want)
		}
	}
	// Only the Meets, or only the Joins, are torn apart.
	for _, c := range []struct {
		l       api.Lattice
		classes []int
	}{
		{samples.ChainLattice(3), []int{0, 1, 0}},
		{samples.StarLattice(4), []int{0, 0, 0, 1}},
		{samples.StarLattice(4), []int{0, 1, 1, 1}},
		{samples.StarLattice(4), []int{0, 1, 1, 2}},
		{pentagon(), []int{0, 0, 1, 2, 2}},
	} {
		if isTaken(t, c.l, c.classes) {
			t.Errorf("%v is a congruence of %v", c.classes, c.l)
		}
	}
}

// isRefused: Check, Congruent and By tell the error, and nothing else.
func isRefused(t *testing.T, l api.Lattice, classes []int, want api.Errno) {
	t.Helper()
	if err := Check(l, classes); err != want {
		t.Errorf("Check(%v, %v) = %d, want %d", l, classes, err, want)
	}
	if congruent, err := Congruent(l, classes); err != want || congruent {
		t.Errorf("Congruent(%v, %v) = %v, error %d, want error %d", l, classes, congruent, err, want)
	}
	if q, err := By(l, classes); err != want || !reflect.DeepEqual(q, api.Lattice{}) {
		t.Errorf("By(%v, %v) = %v, error %d, want error %d", l, classes, q, err, want)
	}
}

func TestS1S2WrongClasses(t *testing.T) {
	for _, l := range []api.Lattice{samples.ChainLattice(1), samples.ChainLattice(3), samples.StarLattice(40)} {
		for _, w := range samples.WrongMaps(l.N, l.N) {
			isRefused(t, l, w.Map, w.Err)
		}
	}
	// What may not stand there comes ahead of its being no congruence.
	isRefused(t, samples.StarLattice(4), []int{0, 1, 1, 3}, api.ErrRange)
	isRefused(t, samples.StarLattice(4), []int{0, 1, 1, 0, 0}, api.ErrForm)
}

func TestJ1CheckIsToldFirst(t *testing.T) {
	for _, w := range samples.WrongLattices() {
		for _, classes := range [][]int{nil, {0}, {0, 0}, {0, 1}, {1, 0}, {-1, 9}, {0, 1, 2}, {0, 1, 1, 0}} {
			isRefused(t, w.Lattice, classes, w.Err)
		}
		for _, p := range [][2]int{{0, 0}, {0, 1}, {-1, 0}, {0, 99}} {
			if got, err := Least(w.Lattice, p[0], p[1]); err != w.Err || got != nil {
				t.Errorf("Least(%v, %v) = %v, error %d, want error %d", w.Lattice, p, got, err, w.Err)
			}
		}
		if got, err := All(w.Lattice); err != w.Err || got != nil {
			t.Errorf("All(%v) = %v, error %d, want error %d", w.Lattice, got, err, w.Err)
		}
		if simple, err := Simple(w.Lattice); err != w.Err || simple {
			t.Errorf("Simple(%v) = %v, error %d, want error %d", w.Lattice, simple, err, w.Err)
		}
	}
}

// latticeOf congruences, by which of them has only pairs of which.
func latticeOf(all [][]int) api.Lattice {
	ends := func(before func(a, b []int) bool) [][]int {
		table := make([][]int, len(all))
		for x, one := range all {
			for _, two := range all {
				found := slices.IndexFunc(all, func(end []int) bool {
					is := before(end, one) && before(end, two)
					for _, other := range all {
						is = is && (!before(other, one) || !before(other, two) || before(other, end))
					}
					return is
				})
				table[x] = append(table[x], found)
			}
		}
		return table
	}
	return api.Lattice{N: len(all), Meet: ends(hasOnly), Join: ends(func(a, b []int) bool { return hasOnly(b, a) })}
}

func TestS3CongruencesAreADistributiveLattice(t *testing.T) {
	tried := 0
	for i, l := range append(few(), samples.SmallLattices()...) {
		all, err := All(l)
		if err != api.OK || i > 150 && i%5 != 0 {
			continue
		}
		tried++
		if distributive, err := lattice.Distributive(latticeOf(all)); err != api.OK || !distributive {
			t.Fatalf("All(%v) = %v: distributive %v, error %d", l, all, distributive, err)
		}
	}
	if tried < 150 {
		t.Errorf("only %d lattices were tried", tried)
	}
}

func TestS3WhatIsSimpleAndDistributiveHasTwoElements(t *testing.T) {
	both := 0
	for _, l := range append(few(), samples.SmallLattices()...) {
		simple, err1 := Simple(l)
		distributive, err2 := lattice.Distributive(l)
		if err1 != api.OK || err2 != api.OK || simple && distributive && l.N != 2 || l.N == 2 && !(simple && distributive) {
			t.Fatalf("%v: simple %v, error %d; distributive %v, error %d", l, simple, err1, distributive, err2)
		}
		if simple && distributive {
			both++
		}
	}
	if both < 2 {
		t.Errorf("only %d lattices were both", both)
	}
}

func TestS3WhatIsTakenTogetherHasTheCongruencesAboveIt(t *testing.T) {
	tried := 0
	for _, l := range []api.Lattice{samples.ChainLattice(5), pentagon(), framed(pentagon()), forty(), samples.TimesLattice(samples.StarLattice(5), pentagon()), samples.TimesLattice(pentagon(), pentagon())} {
		all, err := All(l)
		if err != api.OK {
			t.Fatalf("All(%v): error %d", l, err)
		}
		for _, classes := range all {
			var want [][]int
			for _, other := range all {
				if !hasOnly(classes, other) {
					continue
				}
				above := make([]int, slices.Max(classes)+1)
				for x, class := range classes {
					above[class] = other[x]
				}
				want = append(want, above)
			}
			q, err1 := By(l, classes)
			got, err2 := All(q)
			if err1 != api.OK || err2 != api.OK || !reflect.DeepEqual(got, want) {
				t.Fatalf("By(%v, %v) has the congruences %v, errors %d and %d, want %v", l, classes, got, err1, err2, want)
			}
			tried++
		}
	}
	if tried < 90 {
		t.Errorf("only %d congruences were tried", tried)
	}
}

func TestTogetherOnlyReadsItsPairs(t *testing.T) {
	l := samples.ChainLattice(6)
	pairs := append(make([]pair, 0, 100), pair{1, 0}, pair{4, 5})
	room := pairs[:100]
	before := slices.Clone(room)
	if got := together(l, pairs...); !slices.Equal(got, []int{0, 0, 1, 2, 3, 3}) || !slices.Equal(room, before) {
		t.Errorf("together: %v, and the pairs are %v", got, room)
	}
	if got := together(l); !slices.Equal(got, []int{0, 1, 2, 3, 4, 5}) {
		t.Errorf("together of no pairs: %v", got)
	}
}

func TestP2P3OnlyReadAndTheSameEachTime(t *testing.T) {
	for _, one := range []api.Lattice{samples.ChainLattice(1), samples.ChainLattice(6), samples.ChainLattice(40), samples.StarLattice(7), pentagon(), forty(), fortyOne()} {
		l, rooms := samples.RoomyLattice(one)
		list, _ := Least(one, 0, one.N-1)
		apart, _ := Least(one, 0, 0)
		for _, classes := range [2][]int{list, apart} {
			classes, room := samples.Roomy(classes...)
			all := append(slices.Clone(rooms), room)
			before := make([][]int, len(all))
			for i, room := range all {
				before[i] = slices.Clone(room)
			}
			for range 2 {
				isTaken(t, l, classes)
				isTold(t, l, grownAll(one))
				q, _ := By(l, classes)
				least, _ := Least(l, 0, l.N-1)
				lists, _ := All(l)
				answers := append(append(samples.Rows(q), least, classes), lists...)
				if samples.Shared(answers...) {
					t.Fatalf("answers of %v and %v share memory", l, classes)
				}
				samples.Spoil(least)
				for _, list := range append(samples.Rows(q), lists...) {
					samples.Spoil(list)
				}
				if !reflect.DeepEqual(all, before) || !samples.HasRoom(l) {
					t.Fatalf("%v or %v was changed", one, classes)
				}
			}
		}
	}
}
