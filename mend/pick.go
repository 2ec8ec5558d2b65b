package mend

import (
	"slices"

	"bramble/api"
	"bramble/flat"
)

// place is a symbol, and the tokens of which it comes.
type place struct {
	sym  int
	from int
	to   int
}

// pick is the way that is ahead of all others at a place: its production, where its kids lie, and of how many parts it is.
type pick struct {
	prod  int
	kids  []place
	parts int
}

// picks is what is picked by costs, as far as it is known.
type picks struct {
	*costs
	known map[place]pick
}

// parts is of how many parts the way at a place is, but one more than mostParts, if there are more. While it is looked for that is told of it: of a symbol that comes of itself alone, as none does that flat.Make makes, there would be no end.
func (p picks) parts(at place) int {
	if at.sym < len(p.Terms) {
		return 1
	}
	if was, ok := p.known[at]; ok {
		return was.parts
	}
	p.known[at] = pick{parts: mostParts + 1}
	made := p.pick(at)
	for _, kid := range made.kids {
		made.parts = min(made.parts+p.parts(kid), mostParts+1)
	}
	p.known[at] = made
	return made.parts
}

// pick is, of the ways at a place that cost and count as the costs say, the one of the first production, and of those the one whose first kids end last.
func (p picks) pick(at place) pick {
	best, prods := p.symbols[at.sym][spot(at.from, at.to)], flat.Of(p.Flat, at.sym)
	first := slices.IndexFunc(prods, func(prod int) bool { return p.whole(prod, at.from, at.to) == best })
	made := pick{prod: prods[first], parts: 1}
	from := at.from
	for dot, item := range p.Prods[made.prod].Right {
		end := p.last(made.prod, dot, from, at.to)
		made.kids = append(made.kids, place{item.Sym, from, end})
		from = end
	}
	return made
}

// last is the last place at which the item at a dot can end, that it and those behind it cost and count as the costs say.
func (p picks) last(prod, dot, from, to int) int {
	end := to
	for p.by(prod, dot, from, end, to) != p.tails[prod][dot][spot(from, to)] {
		end--
	}
	return end
}

// way is the way at a place, all of whose parts are known.
func (p picks) way(at place) api.Der {
	d := api.Der{Sym: at.sym, From: at.from, To: at.to}
	switch {
	case at.sym >= len(p.Terms):
		made := p.known[at]
		d.Prod = made.prod
		for _, kid := range made.kids {
			d.Kids = append(d.Kids, p.way(kid))
		}
	case at.from == at.to:
		d.Prod = ofMissing
	default:
		d.Prod, d.Junk = ofToken, at.to-at.from-1
	}
	return d
}
