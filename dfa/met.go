package dfa

import (
	"iter"

	"bramble/api"
)

// order is things in the order in which they are met, each once.
type order[K comparable] struct {
	number map[K]int
	things []K
}

// from is an order that a thing begins.
func from[K comparable](first K) *order[K] {
	return &order[K]{number: map[K]int{first: 0}, things: []K{first}}
}

// meet is the number of a thing.
func (o *order[K]) meet(k K) int {
	n, known := o.number[k]
	if !known {
		n = len(o.things)
		o.number[k] = n
		o.things = append(o.things, k)
	}
	return n
}

// all hands out the things, and those that are met meanwhile.
func (o *order[K]) all() iter.Seq[K] {
	return func(yield func(K) bool) {
		for n := 0; n < len(o.things); n++ {
			if !yield(o.things[n]) {
				return
			}
		}
	}
}

// machine is the machine whose states are the things that are met from one on, along the arcs of each in order.
func machine[K comparable](first K, accept func(K) int, arcs func(K) iter.Seq2[api.Arc, K]) (api.Dfa, api.Errno) {
	var d api.Dfa
	met := from(first)
	for k := range met.all() {
		s := api.Dstate{Accept: accept(k)}
		for x, to := range arcs(k) {
			x.To = met.meet(to)
			s.Arcs = append(s.Arcs, x)
		}
		if len(met.things) > api.MaxDfa {
			return api.Dfa{}, api.ErrMany
		}
		d.States = append(d.States, s)
	}
	return d, api.OK
}

// textOf is numbers as a text: lists can't be keys of a map, texts can. All numbers that are told apart here (bytes, states, classes) are far below those that are no letters.
func textOf(l []int) string {
	out := make([]rune, len(l))
	for i, n := range l {
		out[i] = rune(n)
	}
	return string(out)
}

// numbersOf is the numbers of such a text.
func numbersOf(s string) []int {
	var l []int
	for _, n := range s {
		l = append(l, int(n))
	}
	return l
}
