package nfa

import (
	"iter"
	"math/bits"

	"bramble/api"
)

// nothing stands where no number is accepted.
const nothing = -1

// wordBits is how many states a word of a set has room for.
const wordBits = 64

// set is states, each a bit: so they are told rising and once, without being sorted.
type set []uint64

// setFor is an empty set with room for a machine's states.
func setFor(m api.Nfa) set {
	return make(set, (len(m.States)+wordBits-1)/wordBits)
}

// add puts a state in; false, if it was there.
func (s set) add(n int) bool {
	word, bit := &s[n/wordBits], uint64(1)<<(n%wordBits)
	isNew := *word&bit == 0
	*word |= bit
	return isNew
}

// isEmpty tells whether no state is in it.
func (s set) isEmpty() bool {
	for range s.all() {
		return false
	}
	return true
}

// all hands out the states, rising.
func (s set) all() iter.Seq[int] {
	return func(yield func(int) bool) {
		for i, word := range s {
			for ; word != 0; word &= word - 1 {
				if !yield(i*wordBits + bits.TrailingZeros64(word)) {
					return
				}
			}
		}
	}
}

// isState tells whether a number is a state of a machine.
func isState(m api.Nfa, n int) bool {
	return 0 <= n && n < len(m.States)
}

// statesOf is those of some numbers that are states.
func statesOf(m api.Nfa, l []int) set {
	found := setFor(m)
	for _, n := range l {
		if isState(m, n) {
			found.add(n)
		}
	}
	return found
}

// closure is those of some numbers that are states, and all that Eps leads to from these. What is no state is passed over wherever it stands, so that it needs no fit machine to end.
func closure(m api.Nfa, l iter.Seq[int]) set {
	found := setFor(m)
	var waiting []int
	enter := func(n int) {
		if isState(m, n) && found.add(n) {
			waiting = append(waiting, n)
		}
	}
	for n := range l {
		enter(n)
	}
	for len(waiting) > 0 {
		last := len(waiting) - 1
		n := waiting[last]
		waiting = waiting[:last]
		for _, to := range m.States[n].Eps {
			enter(to)
		}
	}
	return found
}

// led hands out where arcs by a byte lead from the states of a set.
func led(m api.Nfa, from set, c byte) iter.Seq[int] {
	return func(yield func(int) bool) {
		for n := range from.all() {
			for _, x := range m.States[n].Arcs {
				if x.Lo <= int(c) && int(c) <= x.Hi && !yield(x.To) {
					return
				}
			}
		}
	}
}

// accepted is the least number that one of some states accepts.
func accepted(m api.Nfa, in set) int {
	least := nothing
	for n := range in.all() {
		a := m.States[n].Accept
		if a > nothing && (least == nothing || a < least) {
			least = a
		}
	}
	return least
}
