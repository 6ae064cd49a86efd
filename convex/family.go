package convex

import (
	"hasse/api"
	"hasse/sets"
)

// marks tell of each set of points, by its number, whether it is one of some sets.
type marks []bool

// newMarks of n points: no set is one of them.
func newMarks(n int) marks { return make(marks, 1<<n) }

// list of the sets that are marked, rising.
func (m marks) list() []int {
	var list []int
	for set, in := range m {
		if in {
			list = append(list, set)
		}
	}
	return list
}

// hasStep tells whether one of the sets has one point less than this one.
func (m marks) hasStep(set int) bool {
	for _, point := range sets.Members(set) {
		if m[set&^(1<<point)] {
			return true
		}
	}
	return false
}

// isAccessible tells it of a family that was checked.
func isAccessible(f api.Family) bool {
	in := newMarks(f.N)
	for _, set := range f.Sets {
		in[set] = true
	}
	for _, set := range f.Sets {
		if set != 0 && !in.hasStep(set) {
			return false
		}
		for _, other := range f.Sets {
			if !in[set|other] {
				return false
			}
		}
	}
	return in[0]
}

// checkWhole tells, behind what Check says, whether a family is one that hulls are asked of: accessible, and with each point in some of its sets.
func checkWhole(f api.Family) api.Errno {
	if err := Check(f); err != api.OK {
		return err
	}
	if !isAccessible(f) || together(f, 0) != sets.All(f.N) {
		return api.ErrState
	}
	return api.OK
}

// checkSet that is handed in with a family, which is told of first.
func checkSet(f api.Family, set int) api.Errno {
	if err := checkWhole(f); err != api.OK {
		return err
	}
	if !sets.Within(set, f.N) {
		return api.ErrRange
	}
	return api.OK
}

// together: all points of those sets of a family that have none of some points.
func together(f api.Family, none int) int {
	all := 0
	for _, set := range f.Sets {
		if set&none == 0 {
			all |= set
		}
	}
	return all
}

// hull of a set: its rest is the greatest set of the family that has none of it, and that is all of those together.
func hull(f api.Family, set int) int { return sets.All(f.N) &^ together(f, set) }
