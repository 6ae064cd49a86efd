package series

import (
	"cmp"
	"slices"

	"hasse/api"
	"hasse/order"
	"hasse/sets"
)

// links of an order: of each point how many are below it; and those that it knows, by which what stands side by side falls apart, and those that are strange to it, by which what stands one above the other does.
type links struct {
	lower []int
	held  [2][]int
}

// linksOf an order.
func linksOf(o api.Order) links {
	dual, _ := order.Dual(o)
	l := links{}
	for point, set := range o.Below {
		known := set | dual.Below[point]
		l.lower = append(l.lower, sets.Size(set))
		l.held[0] = append(l.held[0], known)
		l.held[1] = append(l.held[1], sets.All(o.N)&^known)
	}
	return l
}

// split a set that has a point into the term of its order.
func (l links) split(set int) (api.Term, bool) {
	if sets.Size(set) == 1 {
		return api.Term{Kind: api.TermPoint, Point: sets.First(set)}, true
	}
	// A piece does not fall apart once more in the way in which it came about; so it is never of the kind of what it is next in.
	for i, kind := range [2]int{api.TermBeside, api.TermOver} {
		parts := sets.Pieces(set, l.held[i])
		if len(parts) == 1 {
			continue
		}
		if kind == api.TermOver {
			// All of one piece are below all of the next one, so any point of it tells.
			slices.SortFunc(parts, func(a, b int) int {
				return cmp.Compare(l.lower[sets.First(a)], l.lower[sets.First(b)])
			})
		}
		return l.splitAll(kind, parts)
	}
	return api.Term{}, false
}

// splitAll parts, and put them together as a term of a kind.
func (l links) splitAll(kind int, parts []int) (api.Term, bool) {
	kids := make([]api.Term, 0, len(parts))
	for _, part := range parts {
		kid, found := l.split(part)
		if !found {
			return api.Term{}, false
		}
		kids = append(kids, kid)
	}
	return api.Term{Kind: kind, Kids: kids}, true
}
