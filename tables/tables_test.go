package tables

import (
	"reflect"
	"testing"

	"hasse/api"
	"hasse/samples"
)

func TestIsUpToIsBelowAndEnd(t *testing.T) {
	for _, l := range append(samples.SmallLattices(), samples.GreatLattices(60)...) {
		least, greatest := End(l.Meet), End(l.Join)
		for x := range l.N {
			if l.Join[least][x] != x || l.Meet[greatest][x] != x {
				t.Fatalf("%v: least %d, greatest %d", l, least, greatest)
			}
			for y := range l.N {
				if got := IsUpTo(l, x, y); got != (l.Join[x][y] == y) {
					t.Fatalf("IsUpTo(%v, %d, %d) = %v", l, x, y, got)
				}
				if got := IsBelow(l, x, y); got != (x != y && l.Join[x][y] == y) {
					t.Fatalf("IsBelow(%v, %d, %d) = %v", l, x, y, got)
				}
			}
		}
	}
}

func TestOfSets(t *testing.T) {
	itself := func(together int) int { return together }
	for _, c := range []struct {
		list []int
		join func(together int) int
		want api.Lattice
	}{
		{[]int{5}, itself, samples.ChainLattice(1)},
		{[]int{0, 1, 3, 7}, itself, samples.ChainLattice(4)},
		{[]int{0, 1, 2, 3}, itself, samples.TimesLattice(samples.ChainLattice(2), samples.ChainLattice(2))},
		{[]int{0, 2, 4, 8, 31}, func(together int) int {
			if together&(together-1) == 0 {
				return together
			}
			return 31
		}, samples.StarLattice(5)},
	} {
		got, err := OfSets(c.list, c.join)
		if err != api.OK || !reflect.DeepEqual(got, c.want) {
			t.Errorf("OfSets(%v) = %v, error %d, want %v", c.list, got, err, c.want)
		}
		if samples.Shared(append(samples.Rows(got), c.list)...) {
			t.Errorf("OfSets(%v) shares memory", c.list)
		}
	}
}

func TestOfSetsTooMany(t *testing.T) {
	var chain []int
	for i := range api.MaxLattice + 1 {
		chain = append(chain, 1<<i-1)
	}
	itself := func(together int) int { return together }
	if got, err := OfSets(chain[:api.MaxLattice], itself); err != api.OK || !reflect.DeepEqual(got, samples.ChainLattice(api.MaxLattice)) {
		t.Errorf("a chain of 40: %v, error %d", got, err)
	}
	if got, err := OfSets(chain, itself); err != api.ErrMany || got.N != 0 || got.Meet != nil || got.Join != nil {
		t.Errorf("a chain of 41: %v, error %d", got, err)
	}
}

func TestPlace(t *testing.T) {
	list := []int{0, 3, 4, 9, 1023}
	for place, set := range list {
		if got := Place(list, set); got != place {
			t.Errorf("Place(%v, %d) = %d", list, set, got)
		}
	}
}
