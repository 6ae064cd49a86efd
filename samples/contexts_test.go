package samples

import (
	"slices"
	"testing"

	"hasse/api"
)

// isContext by the words of O1.
func isContext(c api.Context) bool {
	is := c.Things >= 0 && c.Things <= 10 && c.Marks >= 0 && c.Marks <= 10 && len(c.Has) == c.Things
	for _, marks := range c.Has {
		is = is && marks >= 0 && marks>>c.Marks == 0
	}
	return is
}

// concepts of a context: of how many sets of marks each is what some things have in common.
func concepts(c api.Context) int {
	met := map[int]int{}
	for things := range 1 << c.Things {
		marks := 1<<c.Marks - 1
		for thing, has := range c.Has {
			if things>>thing%2 == 1 {
				marks &= has
			}
		}
		met[marks]++
	}
	return len(met)
}

func TestContextsAreContexts(t *testing.T) {
	if got := len(SmallContexts()); got != 4+15+85+585 {
		t.Errorf("%d small contexts", got)
	}
	great, least, most := GreatContexts(200), 10, 0
	if len(great) < 200 {
		t.Errorf("%d great contexts", len(great))
	}
	for _, c := range append(SmallContexts(), great...) {
		again := Turned(Turned(c))
		if !isContext(c) || !isContext(Turned(c)) || again.Things != c.Things || again.Marks != c.Marks || !slices.Equal(again.Has, c.Has) {
			t.Fatalf("%v, turned %v", c, Turned(c))
		}
		least, most = min(least, concepts(c)), max(most, concepts(c))
	}
	if least != 1 || most != 1024 {
		t.Errorf("from %d to %d concepts", least, most)
	}
}

func TestWrongContexts(t *testing.T) {
	for _, w := range WrongContexts() {
		if isContext(w.Context) {
			t.Errorf("%v is a context, not error %d", w.Context, w.Err)
		}
	}
}

func TestKindsOfContexts(t *testing.T) {
	for n := range 6 {
		if got := concepts(AllButOne(n)); got != 1<<n {
			t.Errorf("all but one of %d: %d concepts", n, got)
		}
		if got := concepts(Steps(n)); got != n+1 {
			t.Errorf("%d steps: %d concepts", n, got)
		}
		if got := concepts(JustOne(n)); n > 1 && got != n+2 {
			t.Errorf("just one of %d: %d concepts", n, got)
		}
	}
	for _, a := range []api.Context{Steps(3), AllButOne(3), JustOne(4), ContextOf(2, 3, 1, 0)} {
		if got := concepts(Capped(a)); !isContext(Capped(a)) || got != concepts(a)+1 {
			t.Errorf("%v, capped: %d concepts", a, got)
		}
		for _, b := range []api.Context{Steps(2), AllButOne(2), JustOne(5)} {
			if got := concepts(Joined(a, b)); !isContext(Joined(a, b)) || got != concepts(a)*concepts(b) {
				t.Errorf("%v with %v: %d concepts", a, b, got)
			}
		}
	}
}
