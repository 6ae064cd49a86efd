// Package scribe: orders as texts: see doc/02-scribe.md.
package scribe

import (
	"strconv"
	"strings"

	"hasse/api"
	"hasse/order"
)

// Print an order.
func Print(o api.Order) (string, api.Errno) {
	covers, err := order.Covers(o)
	if err != api.OK {
		return "", err
	}
	var text strings.Builder
	text.WriteString(strconv.Itoa(o.N))
	text.WriteByte(':')
	for _, cover := range covers {
		text.WriteByte(' ')
		text.WriteString(strconv.Itoa(cover[0]))
		text.WriteByte('<')
		text.WriteString(strconv.Itoa(cover[1]))
	}
	return text.String(), api.OK
}

// Read an order.
func Read(s string) (o api.Order, f api.Fault) {
	defer func() {
		if fault, ok := recover().(api.Fault); ok {
			o, f = api.Order{}, fault
		}
	}()
	return readOrder(s), api.Fault{}
}
