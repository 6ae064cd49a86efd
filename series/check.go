package series

import (
	"hasse/api"
	"hasse/sets"
)

// maxTerms is how many terms may be in one another.
const maxTerms = 40

// check tells what is wrong with a term.
func check(t api.Term) api.Errno {
	if !new(tally).takes(t) {
		return api.ErrMany
	}
	if err := checkForm(t); err != api.OK {
		return err
	}
	if list := points(t); !sets.EachOnce(list, len(list)) {
		return api.ErrRange
	}
	return api.OK
}

// tally is how many terms were met, and how many of them are points.
type tally struct{ terms, points int }

// takes a term and what is in it, unless they are too many. It does not look further than that, for a term whose Kids are in themselves has no end.
func (y *tally) takes(t api.Term) bool {
	y.terms++
	if t.Kind == api.TermPoint {
		y.points++
	}
	if y.terms > maxTerms || y.points > api.MaxPoints {
		return false
	}
	for _, kid := range t.Kids {
		if !y.takes(kid) {
			return false
		}
	}
	return true
}

// checkForm of a term, and then of its Kids.
func checkForm(t api.Term) api.Errno {
	switch t.Kind {
	case api.TermPoint:
		if len(t.Kids) > 0 {
			return api.ErrForm
		}
	case api.TermBeside, api.TermOver:
		if len(t.Kids) < 2 || t.Point != 0 {
			return api.ErrForm
		}
	default:
		return api.ErrKind
	}
	for _, kid := range t.Kids {
		if err := checkForm(kid); err != api.OK {
			return err
		}
	}
	return api.OK
}

// points of a term, as they stand there.
func points(t api.Term) []int {
	if t.Kind == api.TermPoint {
		return []int{t.Point}
	}
	var list []int
	for _, kid := range t.Kids {
		list = append(list, points(kid)...)
	}
	return list
}
