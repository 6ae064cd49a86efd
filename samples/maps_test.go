package samples

import (
	"slices"
	"testing"

	"hasse/api"
)

func TestMaps(t *testing.T) {
	for _, c := range []struct{ n, m, want int }{{0, 0, 1}, {0, 3, 1}, {3, 0, 0}, {1, 4, 4}, {4, 1, 1}, {2, 3, 9}, {3, 2, 8}, {4, 4, 256}} {
		maps := Maps(c.n, c.m)
		if len(maps) != c.want || Shared(maps...) {
			t.Errorf("of %d to %d: %d maps, want %d", c.n, c.m, len(maps), c.want)
		}
		for i, f := range maps {
			if len(f) != c.n || c.n > 0 && (slices.Min(f) < 0 || slices.Max(f) >= c.m) || i > 0 && slices.Compare(maps[i-1], f) >= 0 {
				t.Fatalf("of %d to %d: %v", c.n, c.m, maps)
			}
		}
	}
}

func TestWrongMaps(t *testing.T) {
	for _, c := range []struct{ n, m, forms, ranges int }{{0, 0, 3, 0}, {1, 1, 12, 4}, {3, 2, 12, 12}, {40, 40, 12, 160}} {
		count := map[api.Errno]int{}
		for _, w := range WrongMaps(c.n, c.m) {
			count[w.Err]++
			if right := len(w.Map) == c.n; right != (w.Err == api.ErrRange) {
				t.Errorf("of %d to %d: %v", c.n, c.m, w)
			}
		}
		if count[api.ErrForm] != c.forms || count[api.ErrRange] != c.ranges {
			t.Errorf("of %d to %d: %v", c.n, c.m, count)
		}
	}
}

func TestDrawnMap(t *testing.T) {
	draw := new(Draw)
	met := map[[2]int]int{}
	for range 200 {
		f := DrawnMap(2, 3, draw)
		if len(f) != 2 || slices.Min(f) < 0 || slices.Max(f) > 2 {
			t.Fatalf("%v is no map", f)
		}
		met[[2]int(f)]++
	}
	if len(met) != 9 {
		t.Errorf("%d of 9: %v", len(met), met)
	}
}
