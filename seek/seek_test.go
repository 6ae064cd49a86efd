package seek

import (
	"slices"
	"testing"
)

// met: all that a search looks at, if nothing is so.
func met(n int) (threes, fours [][]int) {
	Three(n, func(x, y, z int) bool {
		threes = append(threes, []int{x, y, z})
		return false
	})
	Four(n, func(a, b, c, d int) bool {
		fours = append(fours, []int{a, b, c, d})
		return false
	})
	return threes, fours
}

func TestAllAreMetInTheirOrder(t *testing.T) {
	for n := range 5 {
		threes, fours := met(n)
		if len(threes) != n*n*n || len(fours) != n*n*n*n {
			t.Errorf("of %d: %d and %d lists", n, len(threes), len(fours))
		}
		for _, lists := range [2][][]int{threes, fours} {
			for i := range lists {
				if i > 0 && slices.Compare(lists[i-1], lists[i]) >= 0 {
					t.Errorf("%v comes ahead of %v", lists[i-1], lists[i])
				}
				if slices.Min(lists[i]) < 0 || slices.Max(lists[i]) >= n {
					t.Errorf("%v is not of %d", lists[i], n)
				}
			}
		}
	}
}

func TestTheFirstIsFound(t *testing.T) {
	if got, found := Three(4, func(x, y, z int) bool { return x+y+z == 8 }); !found || !slices.Equal(got, []int{2, 3, 3}) {
		t.Errorf("Three: %v, %v", got, found)
	}
	if got, found := Four(4, func(a, b, c, d int) bool { return a > b && c > d }); !found || !slices.Equal(got, []int{1, 0, 1, 0}) {
		t.Errorf("Four: %v, %v", got, found)
	}
	if got, found := Three(4, func(x, y, z int) bool { return x+y+z > 9 }); found || got != nil {
		t.Errorf("Three: %v, %v", got, found)
	}
	if got, found := Four(3, func(a, b, c, d int) bool { return a > b && b > c && c > d }); found || got != nil {
		t.Errorf("Four: %v, %v", got, found)
	}
}
