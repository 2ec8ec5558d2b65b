package dfa

import (
	"iter"

	"bramble/api"
	"bramble/nfa"
)

// numBytes is how many bytes there are.
const numBytes = 256

// ofSets is the machine whose states are the sets of states that a fit one is in, as they are met.
func ofSets(m api.Nfa) (api.Dfa, api.Errno) {
	accept := func(set string) int { return accepted(m, numbersOf(set)) }
	arcs := func(set string) iter.Seq2[api.Arc, string] { return setArcs(m, numbersOf(set)) }
	return machine(textOf(nfa.Closure(m, []int{0})), accept, arcs)
}

// accepted is the least number that one of some states accepts.
func accepted(m api.Nfa, in []int) int {
	least := nothing
	for _, n := range in {
		if a := m.States[n].Accept; a != nothing && (least == nothing || a < least) {
			least = a
		}
	}
	return least
}

// setArcs hands out the arcs of a set, and the set to which each leads.
func setArcs(m api.Nfa, in []int) iter.Seq2[api.Arc, string] {
	return func(yield func(api.Arc, string) bool) {
		for lo, hi := range pieces(m, in) {
			to := nfa.Step(m, in, byte(lo))
			if len(to) > 0 && !yield(api.Arc{Lo: lo, Hi: hi}, textOf(to)) {
				return
			}
		}
	}
}

// pieces hands out the bytes cut where an arc of some states begins or ends, so that all bytes of a piece lead to the same ones; those behind all arcs lead nowhere, and are left out.
func pieces(m api.Nfa, in []int) iter.Seq2[int, int] {
	var begins [numBytes + 1]bool
	for _, n := range in {
		for _, x := range m.States[n].Arcs {
			begins[x.Lo], begins[x.Hi+1] = true, true
		}
	}
	return func(yield func(int, int) bool) {
		lo := 0
		for hi := range numBytes {
			if !begins[hi+1] {
				continue
			}
			if !yield(lo, hi) {
				return
			}
			lo = hi + 1
		}
	}
}
