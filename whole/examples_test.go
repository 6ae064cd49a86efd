package whole

import (
	"reflect"
	"testing"

	"hasse/api"
	"hasse/canon"
	"hasse/chain"
	"hasse/clock"
	"hasse/complete"
	"hasse/concept"
	"hasse/convex"
	"hasse/embed"
	"hasse/extend"
	"hasse/fix"
	"hasse/galois"
	"hasse/heyting"
	"hasse/ideal"
	"hasse/imply"
	"hasse/lattice"
	"hasse/level"
	"hasse/match"
	"hasse/moebius"
	"hasse/order"
	"hasse/poly"
	"hasse/promote"
	"hasse/quotient"
	"hasse/realize"
	"hasse/samples"
	"hasse/scales"
	"hasse/scribe"
	"hasse/series"
	"hasse/space"
	"hasse/span"
	"hasse/sperner"
	"hasse/weigh"
)

// said: the example with this number answers as the document says.
func said(t *testing.T, number int, got, want any) {
	t.Helper()
	if !reflect.DeepEqual(got, want) {
		t.Errorf("example %d: %v, want %v", number, got, want)
	}
}

func TestExamplesOfOrders(t *testing.T) {
	three := right(order.Make(3, [][2]int{{0, 1}, {1, 2}}))
	apart, two := samples.Below(0, 0), samples.Below(0, 1)
	said(t, 1, three.Below[2], 3)
	said(t, 1, right(order.Covers(three)), [][2]int{{0, 1}, {1, 2}})
	said(t, 2, right(scribe.Print(three)), "3: 0<1 1<2")
	said(t, 3, len(right(level.Levels(apart))), 1)
	lack, is := ifAny(match.Lack(api.Graph{Left: 2, Right: 1, To: []int{1, 1}}))
	said(t, 4, []any{lack, is}, []any{3, true})
	said(t, 5, right(chain.ByChains(apart)), []int{1, 1})
	said(t, 5, right(chain.ByAntichains(apart)), []int{2})
	said(t, 6, right(extend.Count(samples.Below(0, 0, 0))), 6)
	said(t, 6, right(extend.Nth(samples.Below(0, 0, 0), 3)), []int{1, 2, 0})
	dimension, _, err := realize.Dimension(apart)
	said(t, 7, right(dimension, err), 2)
	said(t, 8, right(span.Of([][2]int{{0, 1}, {2, 3}})), two)
	term, is := ifAny(series.Split(two))
	said(t, 9, []any{term.Kind, is}, []any{api.TermOver, true})
	said(t, 13, right(fix.Count(three, three)), 10)
	said(t, 20, right(moebius.Mu(three, 1, 2)), -1)
	said(t, 21, right(poly.Onto(three)), []int{0, 1, 2, 1})
	said(t, 24, right(space.Opens(two)), []int{0, 2, 3})
	said(t, 25, right(embed.Into(three, []int{0, 1}, []int{2, 0, 1})), true)
	said(t, 26, right(promote.Promote(samples.Below(0, 0, 1), []int{0, 1, 2})), []int{1, 0, 2})
	said(t, 27, right(scales.Cost(samples.Below(0, 0, 0, 0, 0))), 7)
	said(t, 28, len(right(canon.All(3))), 5)
}

func TestExamplesOfLatticesAndOthers(t *testing.T) {
	apart, two := samples.Below(0, 0), samples.Below(0, 1)
	l, is := ifAny(lattice.Tables(two))
	said(t, 10, []any{l.Meet, l.Join, is}, []any{[][]int{{0, 0}, {0, 1}}, [][]int{{0, 1}, {1, 1}}, true})
	said(t, 11, right(ideal.Lattice(samples.Below(0))).N, 2)
	said(t, 12, len(right(complete.Cuts(apart))), 4)
	back, is := ifAny(galois.Back(l, l, []int{0, 0}))
	said(t, 14, []any{back, is}, []any{[]int{1, 1}, true})
	said(t, 15, len(right(concept.Concepts(samples.ContextOf(1, 0)))), 2)
	said(t, 16, right(imply.Close(2, []api.Rule{{If: 1, Then: 2}}, 1)), 3)
	said(t, 17, right(convex.Hull(right(convex.Ends(samples.Below(0, 1, 3))), 5)), 7)
	said(t, 18, right(heyting.Implies(l, 1, 0)), 0)
	said(t, 19, len(right(quotient.All(l))), 2)
	said(t, 22, right(sperner.Bound(4, 3)), 6)
	said(t, 23, right(weigh.Sum(1, []int{2, 3}, []int{1, 5})), 17)
	said(t, 29, right(clock.Ticks(2, []api.Event{samples.Send(0, 0), samples.Receive(1, 0)})), []int{1, 2})
	d, _ := asked(t, api.Desk{}, "put a 3:,0<1")
	_, rows := asked(t, d, "rows a")
	said(t, 30, rows, "3")
}
