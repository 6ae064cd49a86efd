package binomial

import "testing"

// plain binomial, by the words of U1.
func plain(n, k int) int {
	over, under := 1, 1
	for i := range k {
		over *= n - i
		under *= i + 1
	}
	return over / under
}

func TestU1Binomials(t *testing.T) {
	for _, c := range []struct{ n, k, want int }{
		{0, 0, 1}, {7, 0, 1}, {-7, 0, 1},
		{0, 1, 0}, {1, 1, 1}, {1, 2, 0}, {5, 2, 10}, {5, 5, 1}, {5, 6, 0}, {5, 9, 0},
		{-1, 1, -1}, {-1, 2, 1}, {-1, 9, -1}, {-2, 3, -4}, {-3, 2, 6}, {-22, 1, -22},
		{20, 10, 184756}, {-20, 10, 20030010}, {-22, 9, -14307150}, {1000, 1, 1000}, {1000, 2, 499500}, {13, 6, 1716},
	} {
		if got := Of(c.n, c.k); got != c.want {
			t.Errorf("Of(%d, %d) = %d, want %d", c.n, c.k, got, c.want)
		}
	}
	for n := -22; n <= 22; n++ {
		for k := range 11 {
			if got, want := Of(n, k), plain(n, k); got != want {
				t.Errorf("Of(%d, %d) = %d, want %d", n, k, got, want)
			}
		}
	}
}

func TestU1EachIsTheSumOfTwo(t *testing.T) {
	for n := -22; n <= 1000; n++ {
		for k := 1; k <= 6; k++ {
			if got, want := Of(n, k), Of(n-1, k)+Of(n-1, k-1); got != want {
				t.Errorf("Of(%d, %d) = %d, want %d", n, k, got, want)
			}
		}
	}
}
