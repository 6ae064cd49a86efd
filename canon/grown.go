package canon

import (
	"slices"

	"hasse/api"
	"hasse/order"
)

// grown: all forms of one point more than these have, by their Below. Each order has a point above which nothing is, and without it it has one of these forms. Each form has a worker on a channel of its own; several come to the same greater form.
func grown(forms []api.Order) []api.Order {
	channels := make([]chan api.Order, len(forms))
	for i, form := range forms {
		channels[i] = make(chan api.Order)
		go growOne(form, channels[i])
	}
	var greater []api.Order
	for _, channel := range channels {
		for form := range channel {
			greater = append(greater, form)
		}
	}
	slices.SortFunc(greater, func(a, b api.Order) int { return slices.Compare(a.Below, b.Below) })
	return slices.CompactFunc(greater, func(a, b api.Order) bool { return slices.Equal(a.Below, b.Below) })
}

// growOne sends what a form is with a point more, above which nothing is: below it can be any ideal.
func growOne(form api.Order, found chan<- api.Order) {
	defer close(found)
	ideals, _ := order.Ideals(form)
	for _, ideal := range ideals {
		below := append(slices.Clone(form.Below), ideal)
		greater, _ := formOf(api.Order{N: form.N + 1, Below: below})
		found <- greater
	}
}
