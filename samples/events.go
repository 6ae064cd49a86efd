package samples

import (
	"math"
	"slices"

	"hasse/api"
)

// Work of a worker.
func Work(worker int) api.Event { return api.Event{Kind: api.EventWork, Worker: worker} }

// Send a message.
func Send(worker, message int) api.Event {
	return api.Event{Kind: api.EventSend, Worker: worker, Message: message}
}

// Receive a message.
func Receive(worker, message int) api.Event {
	return api.Event{Kind: api.EventReceive, Worker: worker, Message: message}
}

// DrawnEvents: so many of so many workers, in which nothing is wrong. What is sent is received by any worker, or never; the messages are numbered any way.
func DrawnEvents(workers, count int, draw *Draw) []api.Event {
	events := make([]api.Event, 0, count)
	var sent, underway []int
	for range count {
		worker := draw.Next(workers)
		message := draw.Next(100)
		switch kind := draw.Next(5); {
		case kind < 2 && len(underway) > 0:
			place := draw.Next(len(underway))
			events = append(events, Receive(worker, underway[place]))
			underway = slices.Delete(underway, place, place+1)
		case kind < 4 && !slices.Contains(sent, message):
			events = append(events, Send(worker, message))
			sent, underway = append(sent, message), append(underway, message)
		default:
			events = append(events, Work(worker))
		}
	}
	return events
}

// Happening: events of some workers.
type Happening struct {
	Workers int
	Events  []api.Event
}

// Happenings, at least as many as are told, in which nothing is wrong: without events, with as many as there may be of each kind, and drawn ones.
func Happenings(count int) []Happening {
	all := []Happening{
		{1, nil},
		{4, nil},
		{1, slices.Repeat([]api.Event{Work(0)}, 10)},
		{4, slices.Repeat([]api.Event{Work(0), Work(1), Work(2), Work(3)}, 2)},
		{4, []api.Event{Send(0, math.MaxInt), Send(0, 0), Receive(3, math.MaxInt), Receive(0, 0), Send(3, 7)}},
	}
	draw := new(Draw)
	for len(all) < count {
		workers := 1 + draw.Next(api.MaxWorkers)
		all = append(all, Happening{workers, DrawnEvents(workers, draw.Next(api.MaxPoints+1), draw)})
	}
	return all
}

// WrongHappening is what cannot be, and what is wrong with it.
type WrongHappening struct {
	Happening
	Err api.Errno
}

// WrongHappenings: each thing that can be wrong, and where several are, the one that is told.
func WrongHappenings() []WrongHappening {
	var wrong []WrongHappening
	add := func(err api.Errno, workers int, events ...api.Event) {
		wrong = append(wrong, WrongHappening{Happening{workers, events}, err})
	}
	for _, workers := range []int{-1, 0, 5, 64, math.MaxInt, math.MinInt} {
		add(api.ErrMany, workers)
		add(api.ErrMany, workers, Work(0))
		add(api.ErrMany, workers, api.Event{})
	}
	add(api.ErrMany, 4, slices.Repeat([]api.Event{Work(0)}, 11)...)
	add(api.ErrMany, 4, make([]api.Event, 11)...)
	add(api.ErrMany, 0, make([]api.Event, 1000)...)
	for _, kind := range []int{0, 4, 5, -1, math.MaxInt, math.MinInt} {
		add(api.ErrKind, 2, api.Event{Kind: kind})
		add(api.ErrKind, 2, api.Event{Kind: kind, Worker: 2, Message: -1})
		add(api.ErrKind, 2, Work(1), Send(0, 1), api.Event{Kind: kind, Message: 1}, Send(0, 1))
	}
	for _, worker := range []int{-1, 2, 3, math.MaxInt, math.MinInt} {
		add(api.ErrRange, 2, Work(worker))
		add(api.ErrRange, 2, Send(0, 1), Send(worker, 1))
		add(api.ErrRange, 2, Receive(worker, 1))
	}
	for _, message := range []int{-1, -2, math.MinInt} {
		add(api.ErrRange, 2, Send(0, message))
		add(api.ErrRange, 2, Receive(0, message))
	}
	for _, message := range []int{1, -1, math.MaxInt, math.MinInt} {
		add(api.ErrRange, 2, Work(0), api.Event{Kind: api.EventWork, Message: message})
		add(api.ErrRange, 2, Send(0, 1), api.Event{Kind: api.EventWork, Message: message})
	}
	for _, message := range []int{0, 1, math.MaxInt} {
		add(api.ErrTwice, 2, Send(0, message), Send(0, message))
		add(api.ErrTwice, 2, Send(0, message), Receive(0, message), Send(1, message))
		add(api.ErrTwice, 2, Send(0, message), Receive(1, message), Receive(1, message))
		add(api.ErrTwice, 2, Send(0, message), Receive(1, message), Work(0), Receive(0, message))
		add(api.ErrNone, 2, Receive(0, message))
		add(api.ErrNone, 2, Receive(0, message), Send(1, message))
		add(api.ErrNone, 2, Work(0), Send(0, 7), Receive(1, message))
	}
	// The first event in which something is wrong tells, whatever is wrong in those behind it.
	add(api.ErrNone, 2, Receive(0, 1), Send(0, 1), Send(0, 1), Work(2), api.Event{})
	add(api.ErrTwice, 2, Send(0, 1), Send(0, 1), Work(2), api.Event{})
	add(api.ErrRange, 2, Work(2), api.Event{})
	return wrong
}
