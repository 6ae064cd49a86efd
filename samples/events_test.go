package samples

import (
	"math"
	"slices"
	"testing"

	"hasse/api"
)

func TestHappenings(t *testing.T) {
	kinds := map[int]int{}
	lost, own, long := 0, 0, 0
	for _, h := range Happenings(500) {
		if h.Workers < 1 || h.Workers > 4 || len(h.Events) > 10 {
			t.Fatalf("%v has too many", h)
		}
		by := map[int]int{}
		for _, event := range h.Events {
			kinds[event.Kind]++
			if event.Worker < 0 || event.Worker >= h.Workers || event.Message < 0 || event.Kind == api.EventWork && event.Message != 0 {
				t.Fatalf("%v has %v", h, event)
			}
			sender, sent := by[event.Message]
			switch event.Kind {
			case api.EventSend:
				if sent {
					t.Fatalf("%v has %v twice", h, event)
				}
				by[event.Message] = event.Worker
			case api.EventReceive:
				if !sent || sender < 0 {
					t.Fatalf("%v has %v, which is not there", h, event)
				}
				if sender == event.Worker {
					own++
				}
				by[event.Message] = -1
			}
		}
		for _, sender := range by {
			if sender >= 0 {
				lost++
			}
		}
		if len(h.Events) == 10 {
			long++
		}
	}
	if len(kinds) != 3 || min(kinds[1], kinds[2], kinds[3]) < 300 || lost < 100 || own < 100 || long < 30 {
		t.Errorf("kinds %v, %d are lost, %d go to who sent them, %d are as long as can be", kinds, lost, own, long)
	}
}

func TestWrongHappenings(t *testing.T) {
	met := map[api.Errno]int{}
	for _, w := range WrongHappenings() {
		met[w.Err]++
	}
	for _, err := range []api.Errno{api.ErrMany, api.ErrKind, api.ErrRange, api.ErrTwice, api.ErrNone} {
		if met[err] < 3 {
			t.Errorf("error %d has %d samples", err, met[err])
		}
	}
	if len(met) != 5 {
		t.Errorf("the errors are %v", met)
	}
}

func TestEventsOfEachKind(t *testing.T) {
	got := []api.Event{Work(3), Send(2, 5), Receive(1, math.MaxInt)}
	want := []api.Event{{Kind: 1, Worker: 3}, {Kind: 2, Worker: 2, Message: 5}, {Kind: 3, Worker: 1, Message: math.MaxInt}}
	if !slices.Equal(got, want) {
		t.Errorf("%v, want %v", got, want)
	}
}
