package sets

import (
	"math/bits"

	"bramble/api"
)

// How many numbers a word of a set tells of.
const wordBits = 64

// set is numbers of terminals and of the end, a bit each: sets are joined so often that lists would take too long.
type set []uint64

// newSet is an empty set, with room for all terminals of a plain grammar and the end.
func newSet(f api.Flat) set {
	return make(set, len(f.Terms)/wordBits+1)
}

// newSets is an empty set for each symbol.
func newSets(f api.Flat) []set {
	l := make([]set, symbols(f))
	for sym := range l {
		l[sym] = newSet(f)
	}
	return l
}

func (s set) put(n int) {
	s[n/wordBits] |= 1 << (n % wordBits)
}

// join puts all of another set into one, and tells whether that was more than it had.
func (s set) join(other set) bool {
	grown := false
	for at, word := range other {
		if word&^s[at] != 0 {
			s[at] |= word
			grown = true
		}
	}
	return grown
}

// list is the numbers of a set, rising.
func (s set) list() []int {
	var l []int
	for at, word := range s {
		for ; word != 0; word &= word - 1 {
			l = append(l, at*wordBits+bits.TrailingZeros64(word))
		}
	}
	return l
}

// lists is the numbers of each set.
func lists(l []set) [][]int {
	told := make([][]int, len(l))
	for i, s := range l {
		told[i] = s.list()
	}
	return told
}
