package parse

import (
	"cmp"
	"iter"
	"slices"

	"bramble/api"
	"bramble/flat"
	"bramble/mend"
)

// Prods of ways of terminals.
const (
	ofToken   = -1
	ofMissing = -2
)

// view is a text by a plain grammar.
type view struct {
	api.Flat
	tokens []token
}

func viewOf(x api.Lang, s string) view {
	v := view{Flat: x.Flat}
	for _, p := range Tokens(x, s) {
		v.tokens = append(v.tokens, token{p, v.lookOf(p.Term, "")})
	}
	return v
}

// lookOf is how a symbol is shown, with an Alias or without; a number that is none is that of bytes that are no token.
func (v view) lookOf(sym int, alias string) look {
	non := sym - len(v.Terms)
	switch {
	case alias != "":
		return byAlias(alias)
	case sym < 0 || non >= len(v.Nons):
		return wrong()
	case non >= 0:
		return byName(v.Nons[non])
	}
	return byName(v.Terms[sym])
}

// row is the terminals of all tokens; false, if they are too many to be parsed.
func (v view) row() ([]int, bool) {
	if len(v.tokens) > api.MaxTokens {
		return nil, false
	}
	var row []int
	for _, t := range v.tokens {
		row = append(row, t.Term)
	}
	return row, true
}

// mended is the best whole of all tokens; false, if there is none.
func (v view) mended() (api.Mended, bool) {
	row, ok := v.row()
	if !ok {
		return api.Mended{}, false
	}
	return mend.Best(v.Flat, row)
}

// reach is from which byte up to which one a way goes, at a place.
func (v view) reach(d api.Der, at int) (int, int) {
	if d.From == d.To {
		return at, at
	}
	return v.tokens[d.From].From, v.tokens[d.To-1].To
}

// nodes hands out the nodes of a way, at a place, as an item.
func (v view) nodes(d api.Der, at int, as api.Item) iter.Seq[api.Node] {
	return func(yield func(api.Node) bool) {
		for n := range v.bare(d, at, as.Alias) {
			// The Field of an item within is nearer.
			n.Field = cmp.Or(n.Field, as.Field)
			if !yield(n) {
				return
			}
		}
	}
}

// bare hands out the same, but without the item's Field.
func (v view) bare(d api.Der, at int, alias string) iter.Seq[api.Node] {
	from, to := v.reach(d, at)
	shown := v.lookOf(d.Sym, alias)
	hidden := alias == "" && flat.Hidden(v.Flat, d.Sym)
	var l []api.Node
	switch {
	case d.Prod == ofMissing:
		l = append(l, shown.missing().node(from, to, nil))
	case d.Prod == ofToken:
		last := token{v.tokens[d.To-1].Piece, shown}
		l = heap(v.tokens[d.From : d.To-1])
		if !hidden {
			l = append(l, last.leaf())
		}
	case hidden:
		return v.kids(d, from)
	default:
		l = append(l, shown.node(from, to, slices.Collect(v.kids(d, from))))
	}
	return slices.Values(l)
}

// kids hands out the nodes of a way's Kids, the first of them at a place.
func (v view) kids(d api.Der, at int) iter.Seq[api.Node] {
	return func(yield func(api.Node) bool) {
		place := at
		for i, kid := range d.Kids {
			for n := range v.nodes(kid, place, v.Prods[d.Prod].Right[i]) {
				if !yield(n) {
					return
				}
			}
			_, place = v.reach(kid, place)
		}
	}
}
