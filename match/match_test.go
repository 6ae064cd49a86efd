package match

import (
	"math"
	"math/bits"
	"slices"
	"testing"

	"hasse/api"
	"hasse/samples"
)

// graph of as many on the left as there are sets.
func graph(right int, to ...int) api.Graph { return api.Graph{Left: len(to), Right: right, To: to} }

// smallGraphs: all with up to three on the left and up to four on the right.
func smallGraphs() []api.Graph {
	var graphs []api.Graph
	for left := range 4 {
		for right := range 5 {
			for code := range 1 << (left * right) {
				to := make([]int, left)
				for i := range to {
					to[i] = code >> (i * right) & (1<<right - 1)
				}
				graphs = append(graphs, graph(right, to...))
			}
		}
	}
	return graphs
}

// greatGraphs, with few pairs and with many, on either side up to as many as there may be.
func greatGraphs() []api.Graph {
	draw := new(samples.Draw)
	graphs := []api.Graph{graph(10, slices.Repeat([]int{1023}, 10)...), graph(10, make([]int, 10)...), graph(0, make([]int, 10)...), graph(10)}
	for i := range 400 {
		left, right := draw.Next(11), draw.Next(11)
		to := make([]int, left)
		for k := range to {
			for r := range right {
				if draw.Next(2+i%5) == 0 {
					to[k] |= 1 << r
				}
			}
		}
		graphs = append(graphs, graph(right, to...))
	}
	return graphs
}

// allMatchings of a graph, those that leave some without anybody, too.
func allMatchings(g api.Graph) [][]int {
	all := [][]int{{}}
	for left := range g.Left {
		var longer [][]int
		for _, m := range all {
			longer = append(longer, append(slices.Clone(m), -1))
			for right := range g.Right {
				if g.To[left]>>right&1 == 1 && !slices.Contains(m, right) {
					longer = append(longer, append(slices.Clone(m), right))
				}
			}
		}
		all = longer
	}
	return all
}

// pairsOf a matching: how many, and whether it is one.
func pairsOf(g api.Graph, mates []int) (int, bool) {
	pairs, taken := 0, 0
	if len(mates) != g.Left {
		return 0, false
	}
	for left, right := range mates {
		if right == -1 {
			continue
		}
		if right < 0 || right >= g.Right || g.To[left]>>right&1 == 0 || taken>>right&1 == 1 {
			return 0, false
		}
		taken |= 1 << right
		pairs++
	}
	return pairs, true
}

// isCover tells whether each pair that may go has one in either set.
func isCover(g api.Graph, left, right int) bool {
	if left < 0 || right < 0 || left >= 1<<g.Left || right >= 1<<g.Right {
		return false
	}
	for i, set := range g.To {
		if left>>i&1 == 0 && set&^right != 0 {
			return false
		}
	}
	return true
}

// plainLack looks for the least lack by the words of D2.
func plainLack(g api.Graph) (int, bool) {
	for set := 0; set < 1<<g.Left; set++ {
		some := 0
		for i, to := range g.To {
			if set>>i&1 == 1 {
				some |= to
			}
		}
		if bits.OnesCount(uint(some)) < bits.OnesCount(uint(set)) {
			return set, true
		}
	}
	return 0, false
}

// wrong graphs, and what Check says of each.
type wrong struct {
	g   api.Graph
	err api.Errno
}

func wrongGraphs() []wrong {
	return []wrong{
		{api.Graph{Left: -1}, api.ErrMany},
		{api.Graph{Left: 11, To: make([]int, 11)}, api.ErrMany},
		{api.Graph{Right: -1}, api.ErrMany},
		{api.Graph{Right: 11}, api.ErrMany},
		{api.Graph{Left: math.MinInt}, api.ErrMany},
		{api.Graph{Left: math.MaxInt}, api.ErrMany},
		{api.Graph{Right: math.MinInt}, api.ErrMany},
		{api.Graph{Right: math.MaxInt}, api.ErrMany},
		{api.Graph{Left: 1, Right: 11}, api.ErrMany},
		{api.Graph{Left: 11, Right: 1, To: []int{2}}, api.ErrMany},
		{api.Graph{Left: 1, Right: 1}, api.ErrForm},
		{api.Graph{Left: 1, Right: 1, To: []int{1, 1}}, api.ErrForm},
		{api.Graph{Left: 0, Right: 1, To: []int{1}}, api.ErrForm},
		{api.Graph{Left: 2, Right: 1, To: []int{2}}, api.ErrForm},
		{graph(0, 1), api.ErrRange},
		{graph(1, 2), api.ErrRange},
		{graph(1, -1), api.ErrRange},
		{graph(1, 1, 0, 3), api.ErrRange},
		{graph(10, 1024), api.ErrRange},
		{graph(10, math.MinInt), api.ErrRange},
		{graph(10, 0, math.MaxInt), api.ErrRange},
	}
}

func TestD1Check(t *testing.T) {
	for _, w := range wrongGraphs() {
		if got := Check(w.g); got != w.err {
			t.Errorf("Check(%v) = %d, want %d", w.g, got, w.err)
		}
	}
	for _, g := range append([]api.Graph{{}, {To: []int{}}, graph(10, 1023), graph(0, 0)}, smallGraphs()...) {
		if got := Check(g); got != api.OK {
			t.Errorf("Check(%v) = %d, want OK", g, got)
		}
	}
}

func TestD1IsToldFirst(t *testing.T) {
	for _, w := range wrongGraphs() {
		if l, err := Best(w.g); err != w.err || l != nil {
			t.Errorf("Best(%v) = %v, error %d, want error %d", w.g, l, err, w.err)
		}
		if l, r, err := Cover(w.g); err != w.err || l != 0 || r != 0 {
			t.Errorf("Cover(%v) = %d, %d, error %d, want error %d", w.g, l, r, err, w.err)
		}
		if s, ok, err := Lack(w.g); err != w.err || ok || s != 0 {
			t.Errorf("Lack(%v) = %d, %v, error %d, want error %d", w.g, s, ok, err, w.err)
		}
		if n, err := Count(w.g); err != w.err || n != 0 {
			t.Errorf("Count(%v) = %d, error %d, want error %d", w.g, n, err, w.err)
		}
	}
}

func TestD2Best(t *testing.T) {
	for _, g := range smallGraphs() {
		most := 0
		for _, m := range allMatchings(g) {
			n, _ := pairsOf(g, m)
			most = max(most, n)
		}
		mates, err := Best(g)
		if n, ok := pairsOf(g, mates); err != api.OK || !ok || n != most {
			t.Fatalf("Best(%v) = %v, error %d, want %d pairs", g, mates, err, most)
		}
	}
	// Each one has to move on for the last one.
	g := graph(4, 3, 6, 12, 1)
	mates, err := Best(g)
	if err != api.OK || !slices.Equal(mates, []int{1, 2, 3, 0}) {
		t.Errorf("Best(%v) = %v, error %d", g, mates, err)
	}
}

func TestD2Cover(t *testing.T) {
	for _, g := range smallGraphs() {
		least := g.Left
		for left := range 1 << g.Left {
			for right := range 1 << g.Right {
				if isCover(g, left, right) {
					least = min(least, bits.OnesCount(uint(left))+bits.OnesCount(uint(right)))
				}
			}
		}
		left, right, err := Cover(g)
		if err != api.OK || !isCover(g, left, right) || bits.OnesCount(uint(left))+bits.OnesCount(uint(right)) != least {
			t.Fatalf("Cover(%v) = %d, %d, error %d, want %d points", g, left, right, err, least)
		}
	}
}

func TestD2Lack(t *testing.T) {
	for _, c := range []struct {
		g    api.Graph
		want int
		ok   bool
	}{
		{api.Graph{}, 0, false},
		{graph(2, 3, 3), 0, false},
		{graph(1, 1, 1), 3, true},
		{graph(0, 0), 1, true},
		{graph(3, 7, 0, 0), 2, true},
		{graph(3, 1, 7, 1), 5, true},
		{graph(3, 7, 7, 7, 7), 15, true},
		{graph(10, slices.Repeat([]int{1023}, 10)...), 0, false},
		{graph(9, slices.Repeat([]int{511}, 10)...), 1023, true},
	} {
		if got, ok, err := Lack(c.g); err != api.OK || ok != c.ok || got != c.want {
			t.Errorf("Lack(%v) = %d, %v, error %d, want %d, %v", c.g, got, ok, err, c.want, c.ok)
		}
	}
	for _, g := range append(smallGraphs(), greatGraphs()...) {
		want, there := plainLack(g)
		if got, ok, err := Lack(g); err != api.OK || got != want || ok != there {
			t.Fatalf("Lack(%v) = %d, %v, error %d, want %d, %v", g, got, ok, err, want, there)
		}
	}
}

func TestD2Count(t *testing.T) {
	for _, c := range []struct {
		g    api.Graph
		want int
	}{
		{api.Graph{}, 1},
		{graph(10), 1},
		{graph(0, 0), 0},
		{graph(2, 3, 3), 2},
		{graph(1, 1, 1), 0},
		{graph(3, 1, 3, 6), 1},
		{graph(10, 1023), 10},
		{graph(10, slices.Repeat([]int{1023}, 10)...), 3628800},
		{graph(9, slices.Repeat([]int{511}, 10)...), 0},
		{graph(10, slices.Repeat([]int{1023}, 9)...), 3628800},
	} {
		if got, err := Count(c.g); err != api.OK || got != c.want {
			t.Errorf("Count(%v) = %d, error %d, want %d", c.g, got, err, c.want)
		}
	}
	for _, g := range smallGraphs() {
		want := 0
		for _, m := range allMatchings(g) {
			if !slices.Contains(m, -1) {
				want++
			}
		}
		if got, err := Count(g); err != api.OK || got != want {
			t.Fatalf("Count(%v) = %d, error %d, want %d", g, got, err, want)
		}
	}
}

func TestD2CountDrawn(t *testing.T) {
	for _, g := range greatGraphs() {
		// Row by row, as a determinant is laid out, but without signs.
		var ways func(left, taken int) int
		ways = func(left, taken int) int {
			if left == g.Left {
				return 1
			}
			sum := 0
			for right := range g.Right {
				if (g.To[left]&^taken)>>right&1 == 1 {
					sum += ways(left+1, taken|1<<right)
				}
			}
			return sum
		}
		if got, err := Count(g); err != api.OK || got != ways(0, 0) {
			t.Fatalf("Count(%v) = %d, error %d", g, got, err)
		}
	}
}

func TestD3KoenigAndHall(t *testing.T) {
	for _, g := range append(smallGraphs(), greatGraphs()...) {
		mates, err := Best(g)
		pairs, ok := pairsOf(g, mates)
		if err != api.OK || !ok {
			t.Fatalf("Best(%v) = %v, error %d", g, mates, err)
		}
		left, right, err := Cover(g)
		if err != api.OK || !isCover(g, left, right) || bits.OnesCount(uint(left))+bits.OnesCount(uint(right)) != pairs {
			t.Fatalf("Cover(%v) = %d, %d, error %d: %d pairs go", g, left, right, err, pairs)
		}
		_, lack, _ := Lack(g)
		count, _ := Count(g)
		if lack != (pairs < g.Left) || lack != (count == 0) {
			t.Fatalf("%v: a lack is %v, %d pairs go, %d matchings of all", g, lack, pairs, count)
		}
	}
}

func TestP2P3OnlyReadAndTheSameEachTime(t *testing.T) {
	list, room := samples.Roomy(1, 3, 6)
	before := slices.Clone(room)
	g := graph(3, list...)
	for range 3 {
		mates, err := Best(g)
		if err != api.OK || !slices.Equal(mates, []int{0, 1, 2}) {
			t.Fatalf("Best(%v) = %v, error %d", g, mates, err)
		}
		samples.Spoil(mates)
		left, right, _ := Cover(g)
		again, right2, _ := Cover(g)
		if left != again || right != right2 {
			t.Errorf("Cover(%v): %d, %d and then %d, %d", g, left, right, again, right2)
		}
		Lack(g)
		Count(g)
	}
	if !slices.Equal(room, before) {
		t.Errorf("what was handed in was changed: %v", room)
	}
}
