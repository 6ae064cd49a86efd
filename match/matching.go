package match

import (
	"slices"

	"hasse/api"
	"hasse/sets"
)

// nobody stands where somebody goes with none.
const nobody = -1

// matching grows by one pair at a time: of each on the right, who on the left goes with it.
type matching struct {
	graph  api.Graph
	holder []int
}

// best is a matching with the most pairs: of each on the left who goes with it.
func best(g api.Graph) []int {
	m := matching{graph: g, holder: slices.Repeat([]int{nobody}, g.Right)}
	for left := range g.Left {
		tried := 0
		m.seat(left, &tried)
	}
	mates := slices.Repeat([]int{nobody}, g.Left)
	for right := range g.Right {
		if left := m.holder[right]; left != nobody {
			mates[left] = right
		}
	}
	return mates
}

// seat gives one on the left somebody who was not tried yet; who had been there is seated elsewhere, or else it does not go. Whom that fails with need not be tried again in this search.
func (m *matching) seat(left int, tried *int) bool {
	for right := range m.graph.Right {
		if !sets.Has(m.graph.To[left]&^*tried, right) {
			continue
		}
		*tried |= 1 << right
		if m.holder[right] == nobody || m.seat(m.holder[right], tried) {
			m.holder[right] = left
			return true
		}
	}
	return false
}

// comeTo goes from those on the left who have nobody to all with whom they may go, and from these to who goes with them, as far as it gets.
func comeTo(g api.Graph, mates []int) (left, right int) {
	for {
		more := left
		for i := range g.Left {
			if mates[i] == nobody || sets.Has(right, mates[i]) {
				more |= 1 << i
			}
		}
		if more == left {
			return left, right
		}
		left = more
		right = partners(g, left)
	}
}
