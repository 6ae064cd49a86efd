package sets

import (
	"math"
	"slices"
	"testing"

	"hasse/api"
)

func TestCountsAndSets(t *testing.T) {
	for n, want := range map[int]bool{-1: false, 0: true, 1: true, 10: true, 11: false, math.MinInt: false, math.MaxInt: false} {
		if IsCount(n) != want {
			t.Errorf("IsCount(%d) = %v", n, !want)
		}
	}
	for n, want := range map[int]bool{-1: false, 0: true, 1: true, 6: true, 7: false, 10: false, math.MinInt: false, math.MaxInt: false} {
		if IsGround(n) != want {
			t.Errorf("IsGround(%d) = %v", n, !want)
		}
	}
	for point, want := range map[int]bool{-1: false, 0: true, 9: true, 10: false, math.MinInt: false, math.MaxInt: false} {
		if IsPoint(point, 10) != want {
			t.Errorf("IsPoint(%d, 10) = %v", point, !want)
		}
	}
	if IsPoint(0, 0) {
		t.Error("0 is a point of none")
	}
	for _, c := range []struct {
		set, n int
		want   bool
	}{
		{0, 0, true}, {1, 0, false}, {1, 1, true}, {2, 1, false}, {3, 2, true}, {1023, 10, true}, {1024, 10, false},
		{-1, 10, false}, {math.MinInt, 10, false}, {math.MaxInt, 10, false},
	} {
		if Within(c.set, c.n) != c.want {
			t.Errorf("Within(%d, %d) = %v", c.set, c.n, !c.want)
		}
	}
}

func TestMembers(t *testing.T) {
	for set := range 1 << 10 {
		var want []int
		for p := range 10 {
			if set/(1<<p)%2 == 1 {
				want = append(want, p)
			}
			if Has(set, p) != (set/(1<<p)%2 == 1) {
				t.Fatalf("Has(%d, %d) = %v", set, p, Has(set, p))
			}
		}
		if got := Members(set); !slices.Equal(got, want) || Size(set) != len(want) {
			t.Fatalf("Members(%d) = %v, Size %d", set, got, Size(set))
		}
		if set > 0 && First(set) != want[0] {
			t.Fatalf("First(%d) = %d", set, First(set))
		}
	}
	if All(0) != 0 || All(3) != 7 || All(10) != 1023 {
		t.Errorf("All: %d %d %d", All(0), All(3), All(10))
	}
}

func TestHasAll(t *testing.T) {
	for set := range 1 << 5 {
		for part := range 1 << 5 {
			want := true
			for p := range 5 {
				want = want && (part/(1<<p)%2 == 0 || set/(1<<p)%2 == 1)
			}
			if HasAll(set, part) != want {
				t.Fatalf("HasAll(%d, %d) = %v", set, part, !want)
			}
		}
	}
}

func TestEachOnce(t *testing.T) {
	for _, c := range []struct {
		list []int
		n    int
		want bool
	}{
		{nil, 0, true}, {[]int{}, 0, true}, {[]int{0}, 0, false}, {nil, 1, false}, {[]int{0}, 1, true}, {[]int{1}, 1, false},
		{[]int{1, 0}, 2, true}, {[]int{1, 1}, 2, false}, {[]int{0, 2}, 2, false}, {[]int{0, -1}, 2, false}, {[]int{0, 1}, 3, false}, {[]int{0, 1, 1}, 2, false},
		{[]int{9, 8, 7, 6, 5, 4, 3, 2, 1, 0}, 10, true}, {[]int{9, 8, 7, 6, 5, 4, 3, 2, 1, 9}, 10, false},
		{[]int{0, math.MinInt}, 2, false}, {[]int{math.MaxInt, 0}, 2, false},
	} {
		if EachOnce(c.list, c.n) != c.want {
			t.Errorf("EachOnce(%v, %d) = %v", c.list, c.n, !c.want)
		}
	}
}

func TestUpTo(t *testing.T) {
	o := api.Order{N: 3, Below: []int{6, 0, 2}}
	for point, want := range []int{7, 2, 6} {
		if got := UpTo(o, point); got != want {
			t.Errorf("UpTo(%v, %d) = %d, want %d", o, point, got, want)
		}
	}
}

func TestCheckMap(t *testing.T) {
	for _, c := range []struct {
		list []int
		n, m int
		want api.Errno
	}{
		{nil, 0, 0, api.OK}, {[]int{}, 0, 3, api.OK}, {[]int{2, 2, 0}, 3, 3, api.OK}, {[]int{39}, 1, 40, api.OK}, {[]int{0, 0}, 2, 1, api.OK},
		{nil, 1, 0, api.ErrForm}, {nil, 1, 1, api.ErrForm}, {[]int{0}, 0, 1, api.ErrForm}, {[]int{0, 1}, 3, 2, api.ErrForm}, {[]int{0, -1, 0}, 2, 2, api.ErrForm}, {[]int{9}, 2, 2, api.ErrForm},
		{[]int{0}, 1, 0, api.ErrRange}, {[]int{0, 2}, 2, 2, api.ErrRange}, {[]int{0, 1}, 2, 1, api.ErrRange}, {[]int{-1, 0}, 2, 2, api.ErrRange},
		{[]int{math.MaxInt}, 1, 40, api.ErrRange}, {[]int{math.MinInt}, 1, 40, api.ErrRange},
	} {
		if got := CheckMap(c.list, c.n, c.m); got != c.want {
			t.Errorf("CheckMap(%v, %d, %d) = %d, want %d", c.list, c.n, c.m, got, c.want)
		}
	}
}

func TestCheckRising(t *testing.T) {
	for _, c := range []struct {
		list []int
		n    int
		want api.Errno
	}{
		{nil, 0, api.OK}, {[]int{0}, 0, api.OK}, {[]int{0, 1, 3}, 2, api.OK}, {[]int{2}, 2, api.OK}, {[]int{0, 1023}, 10, api.OK},
		{nil, -1, api.ErrMany}, {nil, 11, api.ErrMany}, {[]int{5, -1}, 11, api.ErrMany}, {nil, math.MaxInt, api.ErrMany}, {nil, math.MinInt, api.ErrMany},
		{[]int{1}, 0, api.ErrRange}, {[]int{0, 4}, 2, api.ErrRange}, {[]int{-1, 3}, 2, api.ErrRange}, {[]int{3, 3, 4}, 2, api.ErrRange}, {[]int{0, 1024}, 10, api.ErrRange},
		{[]int{0, 0}, 0, api.ErrTwice}, {[]int{0, 3, 3}, 2, api.ErrTwice}, {[]int{2, 1}, 2, api.ErrTwice}, {[]int{0, 2, 1, 3}, 2, api.ErrTwice},
	} {
		if got := CheckRising(c.list, c.n); got != c.want {
			t.Errorf("CheckRising(%v, %d) = %d, want %d", c.list, c.n, got, c.want)
		}
	}
}

func TestPieces(t *testing.T) {
	// 0 and 2, 2 and 4, 1 and 3 hold on to one another.
	held := []int{4, 8, 17, 2, 4, 0}
	for _, c := range []struct {
		set  int
		want []int
	}{
		{0, nil}, {63, []int{21, 10, 32}}, {31, []int{21, 10}}, {62, []int{10, 20, 32}}, {17, []int{1, 16}}, {32, []int{32}}, {27, []int{1, 10, 16}},
	} {
		before := slices.Clone(held)
		if got := Pieces(c.set, held); !slices.Equal(got, c.want) || !slices.Equal(before, held) {
			t.Errorf("Pieces(%d) = %v, want %v", c.set, got, c.want)
		}
	}
}
