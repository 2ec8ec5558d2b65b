package sets

import (
	"slices"

	"bramble/api"
)

// view is a plain grammar with what its symbols can be, and begin with.
type view struct {
	api.Flat
	empty []bool
	first []set
}

func viewOf(f api.Flat) *view {
	v := &view{Flat: f, empty: derived(f, false), first: newSets(f)}
	for term := range f.Terms {
		v.first[term].put(term)
	}
	settle(f, func(left int, right []api.Item) bool {
		grown, _ := v.begin(v.first[left], right)
		return grown
	})
	return v
}

// derived tells of each symbol whether it derives any row; with terminals taken for what derives none, whether it derives the empty one.
func derived(f api.Flat, terms bool) []bool {
	known := make([]bool, symbols(f))
	for term := range f.Terms {
		known[term] = terms
	}
	settle(f, func(left int, right []api.Item) bool {
		if known[left] || slices.ContainsFunc(right, func(i api.Item) bool { return !known[i.Sym] }) {
			return false
		}
		known[left] = true
		return true
	})
	return known
}

// begin puts into a set what is in First of items, up to the first that can't be empty: whether that was more than it had, and whether all can be empty. Numbers that are no symbols are passed over.
func (v *view) begin(s set, l []api.Item) (grown, through bool) {
	for _, i := range l {
		if !isSymbol(v.Flat, i.Sym) {
			continue
		}
		grown = s.join(v.first[i.Sym]) || grown
		if !v.empty[i.Sym] {
			return grown, false
		}
	}
	return grown, true
}

// follow is, of each symbol of Nons, what can stand behind it. The items of a production are gone through from the last one on, so that what stands behind each is at hand.
func (v *view) follow() []set {
	end := len(v.Terms)
	all := newSets(v.Flat)
	all[end].put(end) // the first of Nons has the number of terminals, too
	behind := newSet(v.Flat)
	settle(v.Flat, func(left int, right []api.Item) bool {
		grown := false
		copy(behind, all[left])
		for _, i := range slices.Backward(right) {
			if isNon(v.Flat, i.Sym) {
				grown = all[i.Sym].join(behind) || grown
			}
			if !v.empty[i.Sym] {
				clear(behind)
			}
			behind.join(v.first[i.Sym])
		}
		return grown
	})
	return all
}
