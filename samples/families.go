package samples

import (
	"math"
	"slices"

	"hasse/api"
)

// FamilyOf sets of n points.
func FamilyOf(n int, sets ...int) api.Family { return api.Family{N: n, Sets: sets} }

// Families of n points, all of them.
func Families(n int) []api.Family {
	var families []api.Family
	for code := range 1 << (1 << n) {
		var sets []int
		for set := range 1 << n {
			if code>>set&1 == 1 {
				sets = append(sets, set)
			}
		}
		families = append(families, FamilyOf(n, sets...))
	}
	return families
}

// SmallFamilies: all of up to three points.
func SmallFamilies() []api.Family {
	var families []api.Family
	for n := range 4 {
		families = append(families, Families(n)...)
	}
	return families
}

// AllSets of n points.
func AllSets(n int) api.Family {
	var sets []int
	for set := range 1 << n {
		sets = append(sets, set)
	}
	return FamilyOf(n, sets...)
}

// Beginnings of words that each have all of n points once, and all that these have together. Such a family is accessible, and each accessible one that has all points is of this kind.
func Beginnings(n int, words ...[]int) api.Family {
	met := []int{0}
	for _, word := range words {
		var more []int
		set := 0
		for _, point := range word {
			set |= 1 << point
			for _, other := range met {
				more = append(more, set|other)
			}
		}
		met = append(met, more...)
		slices.Sort(met)
		met = slices.Compact(met)
	}
	return FamilyOf(n, met...)
}

// GreatFamilies, at least as many as are told: all sets of as many points as there may be, and the beginnings of drawn words of four points up to as many as there may be.
func GreatFamilies(count int) []api.Family {
	families := []api.Family{AllSets(api.MaxPoints)}
	draw := new(Draw)
	for i := 0; len(families) < count; i++ {
		n := 4 + draw.Next(api.MaxPoints-3)
		var words [][]int
		for range 1 + i%6 {
			words = append(words, shuffled(n, draw))
		}
		families = append(families, Beginnings(n, words...))
	}
	return families
}

// WrongFamily is what is no family, and what is wrong with it.
type WrongFamily struct {
	Family api.Family
	Err    api.Errno
}

// WrongFamilies: each thing that can be wrong, and where several are, the one that is told.
func WrongFamilies() []WrongFamily {
	wrong := []WrongFamily{
		{FamilyOf(11, 0, 1, 3), api.ErrMany},
		{FamilyOf(11, 1, 0, -1), api.ErrMany},
		{FamilyOf(0, 1), api.ErrRange},
		{FamilyOf(0, 0, 1), api.ErrRange},
		{FamilyOf(2, 3, 3, 4), api.ErrRange},
		{FamilyOf(2, 3, 0, -1), api.ErrRange},
		{FamilyOf(10, 0, 1024), api.ErrRange},
		{FamilyOf(0, 0, 0), api.ErrTwice},
		{FamilyOf(2, 1, 0), api.ErrTwice},
		{FamilyOf(2, 0, 1, 1, 3), api.ErrTwice},
		{FamilyOf(2, 0, 1, 3, 3), api.ErrTwice},
		{FamilyOf(2, 0, 2, 1, 3), api.ErrTwice},
		{FamilyOf(3, 7, 6, 5, 4, 3, 2, 1, 0), api.ErrTwice},
		{FamilyOf(10, append(AllSets(10).Sets, 1023)...), api.ErrTwice},
	}
	for _, n := range []int{-1, 11, 64, math.MaxInt, math.MinInt} {
		wrong = append(wrong, WrongFamily{FamilyOf(n), api.ErrMany}, WrongFamily{FamilyOf(n, 0), api.ErrMany})
	}
	for _, set := range []int{-1, 8, 15, 1 << 40, math.MaxInt, math.MinInt} {
		for place := range 4 {
			sets := []int{0, 1, 3, 7}
			sets[place] = set
			wrong = append(wrong, WrongFamily{FamilyOf(3, sets...), api.ErrRange})
		}
	}
	return wrong
}
