package samples

import (
	"slices"
	"testing"

	"hasse/api"
)

// isFamily by the words of Q1.
func isFamily(f api.Family) bool {
	is := f.N >= 0 && f.N <= 10
	for i, set := range f.Sets {
		is = is && set >= 0 && set>>f.N == 0 && (i == 0 || set > f.Sets[i-1])
	}
	return is
}

func TestFamiliesAreFamilies(t *testing.T) {
	if got := len(SmallFamilies()); got != 2+4+16+256 {
		t.Errorf("%d small families", got)
	}
	great, least, most := GreatFamilies(200), 1024, 0
	if len(great) < 200 {
		t.Errorf("%d great families", len(great))
	}
	for _, f := range append(SmallFamilies(), great...) {
		if !isFamily(f) {
			t.Fatalf("%v is no family", f)
		}
	}
	for _, f := range great[1:] {
		least, most = min(least, len(f.Sets)), max(most, len(f.Sets))
	}
	if least != 5 || most < 300 || len(great[0].Sets) != 1024 {
		t.Errorf("drawn ones have from %d to %d sets", least, most)
	}
}

func TestBeginnings(t *testing.T) {
	for _, c := range []struct {
		n     int
		words [][]int
		want  []int
	}{
		{0, nil, []int{0}},
		{0, [][]int{{}}, []int{0}},
		{3, [][]int{{2, 0, 1}}, []int{0, 4, 5, 7}},
		{3, [][]int{{0, 1, 2}, {2, 1, 0}}, []int{0, 1, 3, 4, 5, 6, 7}},
		{3, [][]int{{0, 1, 2}, {0, 2, 1}}, []int{0, 1, 3, 5, 7}},
	} {
		if got := Beginnings(c.n, c.words...); got.N != c.n || !slices.Equal(got.Sets, c.want) {
			t.Errorf("Beginnings(%d, %v) = %v, want %v", c.n, c.words, got, c.want)
		}
	}
}

func TestWrongFamilies(t *testing.T) {
	for _, w := range WrongFamilies() {
		if isFamily(w.Family) {
			t.Errorf("%v is a family, not error %d", w.Family, w.Err)
		}
	}
}
