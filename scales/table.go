package scales

import (
	"hasse/api"
	"hasse/sets"
)

// known: of each point which ones are known to stand ahead of it. It is an array, so that it is handed on as a value, and what comes of it can lie in a map.
type known [api.MaxScales]int

// knownOf an order: what is below a point stands ahead of it.
func knownOf(o api.Order) known {
	var k known
	copy(k[:], o.Below)
	return k
}

// isOpen: of neither point it is known that it stands ahead of the other.
func (k known) isOpen(a, b int) bool { return !sets.Has(k[a], b) && !sets.Has(k[b], a) }

// with a weighing more: the point ahead, and what stands ahead of it, stands ahead of the other point, and of all behind that.
func (k known) with(ahead, behind int) known {
	more := k[ahead] | 1<<ahead
	for point := range k {
		if point == behind || sets.Has(k[point], behind) {
			k[point] |= more
		}
	}
	return k
}

// row of n points of which nothing is open: a point's place is how many stand ahead of it.
func (k known) row(n int) []int {
	row := make([]int, n)
	for point := range n {
		row[sets.Size(k[point])] = point
	}
	return row
}

// weighing of a pair that is the best one to go on with, and what it costs till the row is told, with it. Where nothing is to be weighed, it costs nothing.
type weighing struct{ a, b, cost int }

// table of what is weighed next, by what is known of n points. The same is come to in many ways, but looked at once.
type table struct {
	n    int
	best map[known]weighing
}

func tableOf(n int) table { return table{n: n, best: map[known]weighing{}} }

// next weighing: of those that cost least the first one. A pair that is not open would tell nothing.
func (t table) next(k known) weighing {
	if w, met := t.best[k]; met {
		return w
	}
	var least weighing
	for a := range t.n {
		for b := a + 1; b < t.n; b++ {
			if !k.isOpen(a, b) {
				continue
			}
			cost := 1 + t.worse(k.with(a, b), k.with(b, a))
			if least.cost == 0 || cost < least.cost {
				least = weighing{a, b, cost}
			}
		}
	}
	t.best[k] = least
	return least
}

// worse of two outcomes: what it costs in any case.
func (t table) worse(one, other known) int { return max(t.next(one).cost, t.next(other).cost) }
