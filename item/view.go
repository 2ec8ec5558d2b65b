package item

import (
	"bramble/api"
	"bramble/flat"
	"bramble/sets"
)

// view is a plain grammar with what is asked of its symbols again and again: sets.Ahead would work all of it out for each item anew.
type view struct {
	api.Flat
	empty []bool
	first [][]int
	prods [][]int
}

func viewOf(f api.Flat) *view {
	v := &view{Flat: f, empty: sets.Empty(f), first: sets.First(f)}
	for sym := range len(f.Terms) + len(f.Nons) {
		v.prods = append(v.prods, flat.Of(f, sym))
	}
	return v
}

// closed is the closure of items that are fit, of a plain grammar that may be any.
func closed(f api.Flat, l []api.Lr) []api.Lr {
	if len(l) == 0 || !flat.Fit(f) {
		return nil
	}
	return viewOf(f).closure(l)
}

// closure is the least set that has items that are fit, and what they begin with; in order.
func (v *view) closure(l []api.Lr) []api.Lr {
	g := newGrower(v)
	for _, x := range l {
		g.put(x)
	}
	return g.grown()
}
