package clock

import (
	"math"
	"slices"
	"sync"
	"testing"

	"hasse/api"
	"hasse/samples"
)

// told is all that the calls tell of events in which nothing is wrong.
type told struct {
	o      api.Order
	counts [][]int
	ticks  []int
	cuts   int
	lost   []int
}

// ask all calls.
func ask(t *testing.T, workers int, l []api.Event) told {
	t.Helper()
	var got told
	var errs [6]api.Errno
	errs[0] = Check(workers, l)
	got.o, errs[1] = Ahead(workers, l)
	got.counts, errs[2] = Counts(workers, l)
	got.ticks, errs[3] = Ticks(workers, l)
	got.cuts, errs[4] = Cuts(workers, l)
	got.lost, errs[5] = Lost(workers, l)
	if errs != [6]api.Errno{} {
		t.Fatalf("%d workers, %v: errors %v", workers, l, errs)
	}
	return got
}

// isSame: is the same told?
func isSame(a, b told) bool {
	return a.o.N == b.o.N && slices.Equal(a.o.Below, b.o.Below) && slices.EqualFunc(a.counts, b.counts, slices.Equal) && slices.Equal(a.ticks, b.ticks) && a.cuts == b.cuts && slices.Equal(a.lost, b.lost)
}

// isRefused: Check and all calls tell the error, and nothing else.
func isRefused(t *testing.T, workers int, l []api.Event, want api.Errno) {
	t.Helper()
	if got := Check(workers, l); got != want {
		t.Errorf("Check(%d, %v) = %d, want %d", workers, l, got, want)
	}
	if o, err := Ahead(workers, l); err != want || o.N != 0 || o.Below != nil {
		t.Errorf("Ahead(%d, %v) = %v, error %d, want error %d", workers, l, o, err, want)
	}
	if counts, err := Counts(workers, l); err != want || counts != nil {
		t.Errorf("Counts(%d, %v) = %v, error %d, want error %d", workers, l, counts, err, want)
	}
	if ticks, err := Ticks(workers, l); err != want || ticks != nil {
		t.Errorf("Ticks(%d, %v) = %v, error %d, want error %d", workers, l, ticks, err, want)
	}
	if cuts, err := Cuts(workers, l); err != want || cuts != 0 {
		t.Errorf("Cuts(%d, %v) = %d, error %d, want error %d", workers, l, cuts, err, want)
	}
	if lost, err := Lost(workers, l); err != want || lost != nil {
		t.Errorf("Lost(%d, %v) = %v, error %d, want error %d", workers, l, lost, err, want)
	}
}

// letters of which short lists of events of two workers are made: right ones, and of each kind of wrong ones some.
func letters() []api.Event {
	events := []api.Event{{Kind: 0}, {Kind: 4, Worker: 9}, {Kind: 1, Message: 1}, samples.Work(2), samples.Send(-1, 0), samples.Send(0, -1), samples.Receive(0, -1)}
	for worker := range 2 {
		events = append(events, samples.Work(worker))
		for message := range 2 {
			events = append(events, samples.Send(worker, message), samples.Receive(worker, message))
		}
	}
	return events
}

// shortLists of up to three of the letters, all of them.
func shortLists() [][]api.Event {
	lists, longest := [][]api.Event{nil}, [][]api.Event{nil}
	for range 3 {
		var longer [][]api.Event
		for _, list := range longest {
			for _, event := range letters() {
				longer = append(longer, append(slices.Clone(list), event))
			}
		}
		longest = longer
		lists = append(lists, longer...)
	}
	return lists
}

// plainCheck by the words of CC1, with what was sent and received counted.
func plainCheck(workers int, l []api.Event) api.Errno {
	if workers < 1 || workers > 4 || len(l) > 10 {
		return api.ErrMany
	}
	sent, received := map[int]int{}, map[int]int{}
	for _, event := range l {
		if !slices.Contains([]int{1, 2, 3}, event.Kind) {
			return api.ErrKind
		}
		isNone := event.Worker < 0 || event.Worker > workers-1
		if isNone || event.Message < 0 || event.Kind == 1 && event.Message > 0 {
			return api.ErrRange
		}
		if event.Kind == 2 {
			sent[event.Message]++
		}
		if event.Kind == 3 {
			received[event.Message]++
		}
		if sent[event.Message] > 1 || received[event.Message] > 1 {
			return api.ErrTwice
		}
		if received[event.Message] > sent[event.Message] {
			return api.ErrNone
		}
	}
	return api.OK
}

// happenings: all short lists in which nothing is wrong, and great ones.
func happenings() []samples.Happening {
	all := samples.Happenings(600)
	for _, list := range shortLists() {
		if plainCheck(2, list) == api.OK {
			all = append(all, samples.Happening{Workers: 2, Events: list})
		}
	}
	return all
}

func TestCC1Wrong(t *testing.T) {
	for _, w := range samples.WrongHappenings() {
		isRefused(t, w.Workers, w.Events, w.Err)
	}
}

func TestCC1Workers(t *testing.T) {
	for workers := 1; workers <= 4; workers++ {
		for worker := range 6 {
			want := api.OK
			if worker >= workers {
				want = api.ErrRange
			}
			if got := Check(workers, []api.Event{samples.Work(worker)}); got != want {
				t.Errorf("of %d workers, worker %d: %d, want %d", workers, worker, got, want)
			}
		}
	}
}

func TestCC1HowManyEvents(t *testing.T) {
	for count := range 15 {
		l := slices.Repeat([]api.Event{samples.Work(1)}, count)
		if count <= 10 {
			ask(t, 2, l)
		} else {
			isRefused(t, 2, l, api.ErrMany)
		}
	}
	isRefused(t, 2, make([]api.Event, 1<<20), api.ErrMany)
}

func TestCC1ByItsWords(t *testing.T) {
	met := map[api.Errno]int{}
	for _, l := range shortLists() {
		want := plainCheck(2, l)
		met[want]++
		if want != api.OK {
			isRefused(t, 2, l, want)
		} else {
			ask(t, 2, l)
		}
	}
	if len(met) != 5 || met[api.OK] < 100 || met[api.ErrTwice] < 10 {
		t.Errorf("errors that were met: %v", met)
	}
}

// TestCC1OneEventIsSpoilt: right lists, of which one event is changed for another one.
func TestCC1OneEventIsSpoilt(t *testing.T) {
	draw := new(samples.Draw)
	met := map[api.Errno]int{}
	for _, h := range samples.Happenings(2000) {
		if len(h.Events) == 0 {
			continue
		}
		l := slices.Clone(h.Events)
		l[draw.Next(len(l))] = api.Event{Kind: draw.Next(5), Worker: draw.Next(5) - 1, Message: l[draw.Next(len(l))].Message}
		want := plainCheck(h.Workers, l)
		met[want]++
		if got := Check(h.Workers, l); got != want {
			t.Fatalf("Check(%d, %v) = %d, want %d", h.Workers, l, got, want)
		}
	}
	if len(met) != 5 {
		t.Errorf("errors that were met: %v", met)
	}
}

func TestCC2CC3(t *testing.T) {
	work, send, receive := samples.Work, samples.Send, samples.Receive
	for _, c := range []struct {
		name    string
		workers int
		l       []api.Event
		want    told
	}{
		{"nothing", 3, nil, told{cuts: 1}},
		{"nothing, but a list", 3, []api.Event{}, told{cuts: 1}},
		{"one event", 1, []api.Event{work(0)}, told{samples.Below(0), [][]int{{1}}, []int{1}, 2, nil}},
		{"one event of the last worker", 4, []api.Event{work(3)}, told{samples.Below(0), [][]int{{0, 0, 0, 1}}, []int{1}, 2, nil}},
		{"one after the other", 1, []api.Event{work(0), work(0)}, told{samples.Below(0, 1), [][]int{{1}, {2}}, []int{1, 2}, 3, nil}},
		{"who know nothing of one another", 2, []api.Event{work(0), work(1)}, told{samples.Below(0, 0), [][]int{{1, 0}, {0, 1}}, []int{1, 1}, 4, nil}},
		{"a message", 2, []api.Event{send(0, 7), receive(1, 7)}, told{samples.Below(0, 1), [][]int{{1, 0}, {1, 1}}, []int{1, 2}, 3, nil}},
		{"to oneself", 2, []api.Event{send(0, 7), receive(0, 7)}, told{samples.Below(0, 1), [][]int{{1, 0}, {2, 0}}, []int{1, 2}, 3, nil}},
		{"lost", 2, []api.Event{send(0, 7), work(1)}, told{samples.Below(0, 0), [][]int{{1, 0}, {0, 1}}, []int{1, 1}, 4, []int{7}}},
		{"lost, rising", 2, []api.Event{send(0, 9), send(1, 0), send(0, 3), receive(0, 9), send(1, 2)}, told{samples.Below(0, 0, 1, 5, 2), [][]int{{1, 0}, {0, 1}, {2, 0}, {3, 0}, {0, 2}}, []int{1, 1, 2, 3, 2}, 12, []int{0, 2, 3}}},
		{"along three workers", 3, []api.Event{send(0, 0), receive(1, 0), send(1, 1), receive(2, 1), work(0)}, told{samples.Below(0, 1, 3, 7, 1), [][]int{{1, 0, 0}, {1, 1, 0}, {1, 2, 0}, {1, 2, 1}, {2, 0, 0}}, []int{1, 2, 3, 4, 2}, 9, nil}},
		{"overtaken", 2, []api.Event{send(0, 0), send(0, 1), receive(1, 1), receive(1, 0)}, told{samples.Below(0, 1, 3, 7), [][]int{{1, 0}, {2, 0}, {2, 1}, {2, 2}}, []int{1, 2, 3, 4}, 5, nil}},
		{"the same message sent and worked at", 2, []api.Event{work(0), send(1, 0), work(1), receive(0, 0)}, told{samples.Below(0, 0, 2, 3), [][]int{{1, 0}, {0, 1}, {0, 2}, {2, 1}}, []int{1, 1, 2, 2}, 8, nil}},
		{"great numbers", 1, []api.Event{send(0, math.MaxInt), send(0, math.MaxInt-1)}, told{samples.Below(0, 1), [][]int{{1}, {2}}, []int{1, 2}, 3, []int{math.MaxInt - 1, math.MaxInt}}},
	} {
		if got := ask(t, c.workers, c.l); !isSame(got, c.want) {
			t.Errorf("%s: %v, want %v", c.name, got, c.want)
		}
	}
}

func TestExample29(t *testing.T) {
	got := ask(t, 2, []api.Event{samples.Send(0, 0), samples.Receive(1, 0)})
	if !slices.Equal(got.ticks, []int{1, 2}) {
		t.Errorf("who sends and who receives ticks %v", got.ticks)
	}
}

// comesTo tells by the words of CC2 whether one comes from an event to a later one: at once, or by one between them.
func comesTo(l []api.Event, from, to int) bool {
	if from >= to {
		return false
	}
	a, b := l[from], l[to]
	if a.Worker == b.Worker || a.Kind == api.EventSend && b == (api.Event{Kind: api.EventReceive, Worker: b.Worker, Message: a.Message}) {
		return true
	}
	for between := from + 1; between < to; between++ {
		if comesTo(l, from, between) && comesTo(l, between, to) {
			return true
		}
	}
	return false
}

func TestCC2AheadByItsWords(t *testing.T) {
	for _, h := range happenings() {
		o := ask(t, h.Workers, h.Events).o
		if o.N != len(h.Events) || !samples.IsOrder(o.Below) {
			t.Fatalf("Ahead(%d, %v) = %v is no order of these", h.Workers, h.Events, o)
		}
		for from := range h.Events {
			for to := range h.Events {
				if samples.IsBelow(o, from, to) != comesTo(h.Events, from, to) {
					t.Fatalf("Ahead(%d, %v) = %v: is %d below %d?", h.Workers, h.Events, o, from, to)
				}
			}
		}
	}
}

// kept: the counts as Mattern and Fidge keep them: a worker counts its own events, sends its counts along, and takes of what comes the greater ones.
func kept(workers int, l []api.Event) [][]int {
	counts := make([][]int, workers)
	for worker := range counts {
		counts[worker] = make([]int, workers)
	}
	underway := map[int][]int{}
	var all [][]int
	for _, event := range l {
		own := counts[event.Worker]
		own[event.Worker]++
		if event.Kind == api.EventReceive {
			for worker, count := range underway[event.Message] {
				own[worker] = max(own[worker], count)
			}
		}
		if event.Kind == api.EventSend {
			underway[event.Message] = slices.Clone(own)
		}
		all = append(all, slices.Clone(own))
	}
	return all
}

// ticked as Lamport's clocks do: one more than one's own last tick, and than that of what comes.
func ticked(workers int, l []api.Event) []int {
	last := make([]int, workers)
	underway := map[int]int{}
	var all []int
	for _, event := range l {
		tick := last[event.Worker] + 1
		if event.Kind == api.EventReceive {
			tick = max(tick, underway[event.Message]+1)
		}
		if event.Kind == api.EventSend {
			underway[event.Message] = tick
		}
		last[event.Worker] = tick
		all = append(all, tick)
	}
	return all
}

func TestCC2CountsAndTicksAsWorkersKeepThem(t *testing.T) {
	for _, h := range happenings() {
		got := ask(t, h.Workers, h.Events)
		if want := kept(h.Workers, h.Events); !slices.EqualFunc(got.counts, want, slices.Equal) {
			t.Fatalf("Counts(%d, %v) = %v, want %v", h.Workers, h.Events, got.counts, want)
		}
		if want := ticked(h.Workers, h.Events); !slices.Equal(got.ticks, want) {
			t.Fatalf("Ticks(%d, %v) = %v, want %v", h.Workers, h.Events, got.ticks, want)
		}
	}
}

// cutsOf events, by the words of CC3.
func cutsOf(l []api.Event) []int {
	var cuts []int
	for set := range 1 << len(l) {
		isCut := true
		for upper := range l {
			for lower := range l {
				isCut = isCut && (set>>upper&1 == 0 || set>>lower&1 == 1 || !comesTo(l, lower, upper))
			}
		}
		if isCut {
			cuts = append(cuts, set)
		}
	}
	return cuts
}

func TestCC3CutsByTheirWords(t *testing.T) {
	for i, h := range happenings() {
		// All sets of many events are many.
		if len(h.Events) > 6 && i%8 != 0 {
			continue
		}
		if got, want := ask(t, h.Workers, h.Events).cuts, len(cutsOf(h.Events)); got != want {
			t.Fatalf("Cuts(%d, %v) = %d, want %d", h.Workers, h.Events, got, want)
		}
	}
}

func TestCC3LostByItsWords(t *testing.T) {
	for _, h := range happenings() {
		var want []int
		for _, event := range h.Events {
			switch event.Kind {
			case api.EventSend:
				want = append(want, event.Message)
			case api.EventReceive:
				place := slices.Index(want, event.Message)
				want = slices.Delete(want, place, place+1)
			}
		}
		slices.Sort(want)
		if got := ask(t, h.Workers, h.Events).lost; !slices.Equal(got, want) {
			t.Fatalf("Lost(%d, %v) = %v, want %v", h.Workers, h.Events, got, want)
		}
	}
}

// isNoMore tells whether one's counts are no more anywhere than another one's.
func isNoMore(one, other []int) bool {
	for worker := range one {
		if one[worker] > other[worker] {
			return false
		}
	}
	return true
}

func TestCC4BelowIsCountedAndTicked(t *testing.T) {
	for _, h := range happenings() {
		got := ask(t, h.Workers, h.Events)
		for a := range h.Events {
			for b := range h.Events {
				below := samples.IsBelow(got.o, a, b)
				if below != (a != b && isNoMore(got.counts[a], got.counts[b])) {
					t.Fatalf("%v: is %d below %d? Their counts are %v and %v", h, a, b, got.counts[a], got.counts[b])
				}
				if below && got.ticks[a] >= got.ticks[b] {
					t.Fatalf("%v: %d is below %d, their ticks are %d and %d", h, a, b, got.ticks[a], got.ticks[b])
				}
			}
		}
	}
}

func TestCC4TwoCutsMakeTwo(t *testing.T) {
	for _, h := range samples.Happenings(60) {
		if len(h.Events) > 6 {
			continue
		}
		cuts := cutsOf(h.Events)
		if got := ask(t, h.Workers, h.Events).cuts; got != len(cuts) {
			t.Fatalf("%v has %d cuts, want %d", h, got, len(cuts))
		}
		for _, one := range cuts {
			for _, other := range cuts {
				if !slices.Contains(cuts, one&other) || !slices.Contains(cuts, one|other) {
					t.Fatalf("%v has the cuts %d and %d, but not what they make", h, one, other)
				}
			}
		}
	}
}

// stops: of how many events each worker has done, if it can have done any number of its own.
func stops(workers int, l []api.Event) [][]int {
	all := [][]int{{}}
	for worker := range workers {
		var longer [][]int
		for _, done := range all {
			longer = append(longer, append(slices.Clone(done), 0))
			for _, event := range l {
				if event.Worker == worker {
					last := longer[len(longer)-1]
					longer = append(longer, append(slices.Clone(done), last[worker]+1))
				}
			}
		}
		all = longer
	}
	return all
}

// isMet tells whether none of the events that are done knows of one that is not.
func isMet(l []api.Event, counts [][]int, done []int) bool {
	for place, event := range l {
		if counts[place][event.Worker] <= done[event.Worker] && !isNoMore(counts[place], done) {
			return false
		}
	}
	return true
}

func TestCC3CutsAsWorkersStop(t *testing.T) {
	for _, h := range happenings() {
		got := ask(t, h.Workers, h.Events)
		count := 0
		for _, done := range stops(h.Workers, h.Events) {
			if isMet(h.Events, kept(h.Workers, h.Events), done) {
				count++
			}
		}
		if count != got.cuts {
			t.Fatalf("%v: the workers can stop in %d ways, Cuts is %d", h, count, got.cuts)
		}
	}
}

func TestP2P3OnlyReadAndTheSameEachTime(t *testing.T) {
	for _, h := range samples.Happenings(100) {
		room := append(slices.Clone(h.Events), api.Event{Kind: 77}, api.Event{Kind: 78}, api.Event{Kind: 79})
		before := slices.Clone(room)
		l := room[:len(h.Events)]
		want := ask(t, h.Workers, slices.Clone(l))
		for range 3 {
			got := ask(t, h.Workers, l)
			if !isSame(got, want) || !slices.Equal(room, before) {
				t.Fatalf("%v: %v, want %v; %v was %v", h, got, want, room, before)
			}
			lists := append(slices.Clone(got.counts), got.o.Below, got.ticks, got.lost)
			if samples.Shared(lists...) {
				t.Fatalf("%v: two lists of %v share memory", h, got)
			}
			for _, list := range lists {
				samples.Spoil(list)
			}
			clear(got.counts)
		}
	}
}

func TestP2NothingIsKept(t *testing.T) {
	l := []api.Event{samples.Send(0, 4), samples.Receive(1, 4), samples.Send(1, 3)}
	got := ask(t, 2, l)
	want := ask(t, 2, slices.Clone(l))
	clear(l)
	if !isSame(got, want) {
		t.Errorf("%v has changed to %v", want, got)
	}
}

func TestP3AskedByManyAtOnce(t *testing.T) {
	l := samples.DrawnEvents(4, 10, new(samples.Draw))
	want := ask(t, 4, l)
	wrong := make([]int, 30)
	var group sync.WaitGroup
	for i := range wrong {
		group.Go(func() {
			counts, err := Counts(4, l)
			cuts, other := Cuts(4, l)
			if err != api.OK || other != api.OK || !slices.EqualFunc(counts, want.counts, slices.Equal) || cuts != want.cuts {
				wrong[i] = 1
			}
		})
	}
	group.Wait()
	if slices.Contains(wrong, 1) {
		t.Errorf("who was told something else: %v", wrong)
	}
}
