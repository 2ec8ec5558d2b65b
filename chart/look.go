package chart

import (
	"iter"

	"bramble/api"
)

// chart is all that is found of a plain grammar in a row, place by place, as it is asked for.
type chart struct {
	view
	length int
	most   int
	known  map[place]found
}

func chartOf(f api.Flat, l []int, most int) *chart {
	return &chart{view: viewOf(f, l), length: len(l), most: most, known: map[place]found{}}
}

// whole is what is found of the first of Nons in all of the row.
func (c *chart) whole() found {
	return c.symbol(len(c.Terms), 0, c.length)
}

// symbol is what is found of a symbol, where it may be. Nothing is known of it while it is looked for: a symbol that comes of itself alone, as none does that flat.Make makes, would have no end.
func (c *chart) symbol(sym, from, to int) found {
	if sym < len(c.Terms) {
		return found{ways: 1, parts: 1, pick: ofTerminal}
	}
	at := place{sym, ofSymbol, from, to}
	if was, ok := c.known[at]; ok {
		return was
	}
	c.known[at] = found{}
	var best found
	for _, prod := range c.prods[sym] {
		if c.tails[prod][0].can(from, to) {
			all := c.items(place{prod, 0, from, to}).and(found{ways: 1, count: c.Prods[prod].Prec, parts: 1}, c.most)
			all.pick = prod
			best = best.or(all, c.most)
		}
	}
	c.known[at] = best
	return best
}

// items is what is found of a production's items from a dot on, where they may be.
func (c *chart) items(at place) found {
	right := c.Prods[at.of].Right
	if at.dot == len(right) {
		return found{ways: 1}
	}
	if was, ok := c.known[at]; ok {
		return was
	}
	var best found
	for end := range c.ends(at) {
		all := c.symbol(right[at.dot].Sym, at.from, end)
		if all.ways > 0 {
			all = all.and(c.items(place{at.of, at.dot + 1, end, at.to}), c.most)
			all.pick = end
			best = best.or(all, c.most)
		}
	}
	c.known[at] = best
	return best
}

// ends hands out where the item at a dot may end, so that it may be what stands up to there, and those behind it the rest: the last of them first, as of two ways that count alike the one whose item ends later is ahead.
func (c *chart) ends(at place) iter.Seq[int] {
	return func(yield func(int) bool) {
		sym := c.Prods[at.of].Right[at.dot].Sym
		item, behind := c.symbols[sym], c.tails[at.of][at.dot+1]
		last := at.to
		if sym < len(c.Terms) {
			last = min(last, at.from+1)
		}
		for end := last; end >= at.from; end-- {
			if item.can(at.from, end) && behind.can(end, at.to) && !yield(end) {
				return
			}
		}
	}
}

// way is the best way of a symbol, where one is found.
func (c *chart) way(sym, from, to int) api.Der {
	prod := c.symbol(sym, from, to).pick
	d := api.Der{Sym: sym, Prod: prod, From: from, To: to}
	if prod == ofTerminal {
		return d
	}
	at := from
	for dot, item := range c.Prods[prod].Right {
		end := c.items(place{prod, dot, at, to}).pick
		d.Kids = append(d.Kids, c.way(item.Sym, at, end))
		at = end
	}
	return d
}
