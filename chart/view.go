package chart

import (
	"bramble/api"
	"bramble/flat"
	"bramble/sets"
)

// The most that a chart is made of.
const (
	// mostRow is as many terminals as a mended row has: those of the row, and as many as can be missing at a cost of 3 each.
	mostRow = api.MaxTokens + api.MaxCost/3
	// mostItems is more than the items of what flat.Make makes: of each part of a grammar come at most three, and one of each rule.
	mostItems = 4 * api.MaxExprs
)

// sound tells whether a plain grammar is fit, and no greater than what flat.Make makes, and a row no longer than a chart is made for.
func sound(f api.Flat, l []int) bool {
	if len(l) > mostRow || !flat.Fit(f) {
		return false
	}
	items := 0
	for _, p := range f.Prods {
		items += len(p.Right)
	}
	return items <= mostItems
}

// marks is places of a row.
type marks [2]uint64

func (m *marks) put(at int)     { m[at/64] |= 1 << (at % 64) }
func (m marks) has(at int) bool { return m[at/64]>>(at%64)&1 != 0 }

func (m marks) with(other marks) marks {
	return marks{m[0] | other[0], m[1] | other[1]}
}

// tail is what can be of the items of a production from a dot on: least: how many tokens it has at the least; opens: where in the row it can begin, if it is not empty.
type tail struct {
	least int
	opens marks
}

// can tells whether it may be that a tail comes of the tokens from one place up to another.
func (t tail) can(from, to int) bool {
	if from == to {
		return t.least == 0
	}
	return t.least <= to-from && t.opens.has(from)
}

// view is a plain grammar as it looks at a row: of each symbol whether it can be empty (least 0) and where it can begin, and its productions; of each production its tails, from the first item's on to that of nothing.
type view struct {
	api.Flat
	symbols []tail
	prods   [][]int
	tails   [][]tail
}

func viewOf(f api.Flat, l []int) view {
	v := view{Flat: f, symbols: symbolsAt(f, l), prods: make([][]int, len(f.Terms)+len(f.Nons))}
	for sym := range v.prods {
		v.prods[sym] = flat.Of(f, sym)
	}
	for _, p := range f.Prods {
		v.tails = append(v.tails, v.tailsOf(p.Right))
	}
	return v
}

// symbolsAt is, of each symbol, whether it can be empty, and where in a row it can begin.
func symbolsAt(f api.Flat, l []int) []tail {
	symbols := make([]tail, len(f.Terms)+len(f.Nons))
	of := make([]marks, len(f.Terms)) // where each terminal stands
	for at, term := range l {
		if term >= 0 && term < len(f.Terms) {
			of[term].put(at)
		}
	}
	for sym, first := range sets.First(f) {
		for _, term := range first {
			symbols[sym].opens = symbols[sym].opens.with(of[term])
		}
	}
	for sym, empty := range sets.Empty(f) {
		if !empty {
			symbols[sym].least = 1
		}
	}
	return symbols
}

func (v view) tailsOf(items []api.Item) []tail {
	tails := make([]tail, len(items)+1)
	for dot := len(items) - 1; dot >= 0; dot-- {
		t := v.symbols[items[dot].Sym]
		behind := tails[dot+1]
		if t.least == 0 {
			t.opens = t.opens.with(behind.opens)
		}
		t.least += behind.least
		tails[dot] = t
	}
	return tails
}
