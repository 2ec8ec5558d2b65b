package glr

import (
	"iter"
	"math/bits"
)

// wordBits is how many numbers a word of a set has.
const wordBits = 64

// numbers is a set of numbers of nodes, as bits.
type numbers []uint64

// all hands out the numbers, rising.
func (s numbers) all() iter.Seq[int] {
	return func(yield func(int) bool) {
		for i, word := range s {
			for ; word != 0; word &= word - 1 {
				if !yield(wordBits*i + bits.TrailingZeros64(word)) {
					return
				}
			}
		}
	}
}

// add puts in a number, and tells whether it was not there.
func (s *numbers) add(n int) bool {
	s.widen(n/wordBits + 1)
	word := &(*s)[n/wordBits]
	was := *word
	*word |= 1 << (n % wordBits)
	return *word != was
}

// put puts in all that another set has.
func (s *numbers) put(other numbers) {
	s.widen(len(other))
	for i, word := range other {
		(*s)[i] |= word
	}
}

// widen makes room for so many words.
func (s *numbers) widen(words int) {
	if more := words - len(*s); more > 0 {
		*s = append(*s, make(numbers, more)...)
	}
}

// less is what another set has not, in memory of its own; nil, if that is nothing.
func (s numbers) less(other numbers) numbers {
	var left numbers
	for i, word := range s {
		if i < len(other) {
			word &^= other[i]
		}
		if word == 0 {
			continue
		}
		if left == nil {
			left = make(numbers, len(s))
		}
		left[i] = word
	}
	return left
}
