package sets

import (
	"iter"

	"bramble/api"
)

// productions hands out a plain grammar's productions: each Left with its items.
func productions(f api.Flat) iter.Seq2[int, []api.Item] {
	return func(yield func(int, []api.Item) bool) {
		for _, p := range f.Prods {
			if !yield(p.Left, p.Right) {
				return
			}
		}
	}
}

// settle lets sets grow by one production after another, round by round, till as many in a row as there are have changed nothing. What grow tells is whether it has changed something.
func settle(f api.Flat, grow func(left int, right []api.Item) bool) {
	still := 0
rounds:
	for len(f.Prods) > 0 {
		for left, right := range productions(f) {
			if grow(left, right) {
				still = 0
				continue
			}
			still++
			if still == len(f.Prods) {
				break rounds
			}
		}
	}
}
