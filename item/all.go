package item

import (
	"iter"

	"bramble/api"
)

// all is all sets of items. Of a set that is met its kernel waits till its turn comes: where there are too many, most of the closures are not asked for.
func (v *view) all() ([][]api.Lr, api.Errno) {
	var told [][]api.Lr
	met := map[string]struct{}{}
	waiting := [][]api.Lr{beginning(v.Flat)}
	for at := 0; at < len(waiting); at++ {
		set := v.closure(waiting[at])
		told = append(told, set)
		for kernel := range v.kernels(set) {
			if !isNew(met, keyOf(kernel)) {
				continue
			}
			if len(waiting) == api.MaxStates {
				return nil, api.ErrMany
			}
			waiting = append(waiting, kernel)
		}
	}
	return told, api.OK
}

// kernels hands out, symbol by symbol, the items of a set that it leads to, their Dot behind it, where there are any. As a closure puts in nothing but items with Dot 0, two closures of kernels are the same just if these are.
func (v *view) kernels(set []api.Lr) iter.Seq[[]api.Lr] {
	return func(yield func([]api.Lr) bool) {
		by := make([][]api.Lr, len(v.prods))
		for _, x := range set {
			if sym, ok := Next(v.Flat, x); ok {
				x.Dot++
				by[sym] = append(by[sym], x)
			}
		}
		for _, kernel := range by {
			if len(kernel) > 0 && !yield(kernel) {
				return
			}
		}
	}
}

// keyOf is a kernel's items, in order, as a text: of fit ones no number takes more than two bytes.
func keyOf(kernel []api.Lr) string {
	var key []byte
	for _, x := range kernel {
		key = append(key, highByte(x.Prod+1), byte(x.Prod+1), byte(x.Dot), highByte(x.Look), byte(x.Look))
	}
	return string(key)
}

func highByte(n int) byte {
	return byte(n >> 8)
}
