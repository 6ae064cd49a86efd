package imply

import (
	"hasse/api"
	"hasse/concept"
	"hasse/sets"
)

// closing makes of a set of marks the least closed one that has all of it. Keys and bases need know no more, be it by rules or by things that sets are closed.
type closing func(set int) int

// byRules: what a set lacks to obey a rule is added, until it obeys all of them.
func byRules(l []api.Rule) closing {
	return func(set int) int {
		for before := -1; set != before; {
			before = set
			for _, r := range l {
				if !obeys(set, r) {
					set |= r.Then
				}
			}
		}
		return set
	}
}

// byThings of a context that was checked, so that nothing can be wrong with the sets that are asked for.
func byThings(c api.Context) closing {
	return func(set int) int {
		things, _ := concept.Things(c, set)
		marks, _ := concept.Marks(c, things)
		return marks
	}
}

// keys of n marks, rising.
func keys(n int, toClosed closing) []int {
	var found []int
next:
	for set := range 1 << n {
		if toClosed(set) != sets.All(n) {
			continue
		}
		for _, mark := range sets.Members(set) {
			if toClosed(set&^(1<<mark)) == sets.All(n) {
				continue next
			}
		}
		found = append(found, set)
	}
	return found
}

// base of n marks: a rule for each skew set, rising. Whatever is less than a set has a lesser number, so when a set's turn comes, the rules of all skew sets that are less have been found.
func base(n int, toClosed closing) ([]api.Rule, api.Errno) {
	var rules []api.Rule
next:
	for set := range 1 << n {
		closed := toClosed(set)
		if closed == set {
			continue
		}
		for _, r := range rules {
			if !obeys(set, r) {
				continue next
			}
		}
		if len(rules) == api.MaxRules {
			return nil, api.ErrMany
		}
		rules = append(rules, api.Rule{If: set, Then: closed})
	}
	return rules, api.OK
}
