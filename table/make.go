package table

import (
	"maps"
	"slices"

	"bramble/api"
	"bramble/item"
)

// The whole's production: it is none of the plain grammar's, and where it ends the whole is taken.
const whole = -1

// maker makes the rows of a plain grammar's tables.
type maker struct {
	api.Flat
	places map[string]int // of the sets, by their keys
}

func makerOf(f api.Flat, sets [][]api.Lr) *maker {
	m := &maker{Flat: f, places: map[string]int{}}
	for place, set := range sets {
		m.places[keyOf(set)] = place
	}
	return m
}

// keyOf is a set's items whose Dot is not ahead of all, as bytes. Closure puts in none of these, so that sets that are led to are the same just if their keys are; the first set has none, and nothing leads to it. Asking item.Goto for each symbol would close each set again and again.
func keyOf(set []api.Lr) string {
	var w writer
	for _, x := range set {
		if x.Dot > 0 {
			w.item(x)
		}
	}
	return w.String()
}

// row is what the state of a set does, and where it goes.
func (m *maker) row(set []api.Lr) api.Row {
	does := acts{}
	keys := make([]writer, len(m.Terms)+len(m.Nons))
	for _, x := range set {
		sym, ok := item.Next(m.Flat, x)
		if !ok {
			does.end(x)
			continue
		}
		x.Dot++
		keys[sym].item(x)
	}
	var r api.Row
	for sym := range keys {
		if keys[sym].Len() == 0 {
			continue
		}
		to := m.places[keys[sym].String()]
		r.Goes = append(r.Goes, api.Go{Sym: sym, To: to})
		// The first of Nons has the number of the end, which is never shifted.
		if sym < len(m.Terms) {
			does.shift(sym, to)
		}
	}
	r.Acts = does.list()
	return r
}

// acts is what a state does, gathered by Look.
type acts map[int]api.Act

// at is what is gathered of a Look so far.
func (m acts) at(look int) api.Act {
	if a, ok := m[look]; ok {
		return a
	}
	return nothing(look)
}

func (m acts) shift(term, to int) {
	a := m.at(term)
	a.To = to
	m[term] = a
}

// end takes an item whose Dot is behind all. As items come in order, productions come rising, each once.
func (m acts) end(x api.Lr) {
	a := m.at(x.Look)
	if x.Prod == whole {
		a.Accept = true
	} else {
		a.Reduce = append(a.Reduce, x.Prod)
	}
	m[x.Look] = a
}

// list is what is gathered, by Look rising.
func (m acts) list() []api.Act {
	var l []api.Act
	for _, look := range slices.Sorted(maps.Keys(m)) {
		l = append(l, m[look])
	}
	return l
}
