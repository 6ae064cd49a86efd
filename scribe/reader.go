package scribe

import (
	"hasse/api"
	"hasse/order"
)

// reader goes through a text from the left, and gives up at the first fault that it meets.
type reader struct {
	text string
	at   int
}

// giveUp ends the reading; Read catches the fault.
func giveUp(err api.Errno, at int) {
	panic(api.Fault{Err: err, At: at})
}

// readOrder reads a whole text.
func readOrder(text string) api.Order {
	if len(text) > api.MaxText {
		giveUp(api.ErrMany, 0)
	}
	r := reader{text: text}
	n := r.number(api.MaxPoints, api.ErrMany)
	r.take(':')
	var pairs [][2]int
	for r.at < len(text) {
		pairs = append(pairs, r.pair(n))
	}
	o, err := order.Make(n, pairs)
	if err != api.OK {
		giveUp(err, 0)
	}
	return o
}

// pair takes a blank and two of n points.
func (r *reader) pair(n int) [2]int {
	r.take(' ')
	lower := r.number(n-1, api.ErrRange)
	r.take('<')
	upper := r.number(n-1, api.ErrRange)
	return [2]int{lower, upper}
}

// take one byte, which must be the one that is wanted.
func (r *reader) take(want byte) {
	if r.at == len(r.text) || r.text[r.at] != want {
		giveUp(api.ErrForm, r.at)
	}
	r.at++
}

// number takes the digits of a number, and gives up with tooGreat where it begins, if it is above most.
func (r *reader) number(most int, tooGreat api.Errno) int {
	start := r.at
	if !r.atDigit() {
		giveUp(api.ErrForm, start)
	}
	value := r.digit()
	// A nought stands alone: a digit behind it is left to the next take, whose fault it is.
	for value > 0 && r.atDigit() {
		// No number that is too great gets any better by more digits, and so it never overflows.
		value = min(value*10+r.digit(), api.MaxPoints+1)
	}
	if value > most {
		giveUp(tooGreat, start)
	}
	return value
}

func (r *reader) atDigit() bool {
	return r.at < len(r.text) && r.text[r.at] >= '0' && r.text[r.at] <= '9'
}

func (r *reader) digit() int {
	r.at++
	return int(r.text[r.at-1] - '0')
}
