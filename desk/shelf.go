package desk

import (
	"maps"
	"slices"
	"strings"

	"hasse/api"
	"hasse/order"
	"hasse/scribe"
)

// shelf has the orders of a desk by their names while a line is run.
type shelf map[string]api.Order

// takeUp what lies on a right desk. Its orders are only read.
func takeUp(d api.Desk) shelf {
	s := shelf{}
	for i, name := range d.Names {
		s[name] = d.Orders[i]
	}
	return s
}

// layDown all orders as a desk that shares no memory with where they come from.
func (s shelf) layDown() api.Desk {
	d := api.Desk{Names: s.names()}
	for _, name := range d.Names {
		o := s[name]
		d.Orders = append(d.Orders, api.Order{N: o.N, Below: slices.Clone(o.Below)})
	}
	return d
}

// names, rising.
func (s shelf) names() []string { return slices.Sorted(maps.Keys(s)) }

// hasAll tells whether each of the words is a name that has an order.
func (s shelf) hasAll(words []string) bool {
	for _, word := range words {
		if _, has := s[word]; !has {
			return false
		}
	}
	return true
}

// give a name an order that a call has made, if it has made one.
func (s shelf) give(name string, o api.Order, err api.Errno) (string, api.Errno) {
	if err == api.OK {
		s[name] = o
	}
	return "", err
}

func (s shelf) put(words []string) (string, api.Errno) {
	o, fault := scribe.Read(strings.ReplaceAll(words[1], ",", " "))
	return s.give(words[0], o, fault.Err)
}

func (s shelf) drop(words []string) (string, api.Errno) {
	delete(s, words[0])
	return "", api.OK
}

func (s shelf) dual(words []string) (string, api.Errno) {
	o, err := order.Dual(s[words[1]])
	return s.give(words[0], o, err)
}

func (s shelf) beside(words []string) (string, api.Errno) {
	o, err := order.Beside(s[words[1]], s[words[2]])
	return s.give(words[0], o, err)
}

func (s shelf) over(words []string) (string, api.Errno) {
	o, err := order.Over(s[words[1]], s[words[2]])
	return s.give(words[0], o, err)
}

func (s shelf) times(words []string) (string, api.Errno) {
	o, err := order.Times(s[words[1]], s[words[2]])
	return s.give(words[0], o, err)
}
