package mend

import (
	"iter"
	"slices"

	"bramble/api"
	"bramble/flat"
)

// The most that costs are asked of.
const (
	// mostRow is twice as long as a row may be: longer ones would take long.
	mostRow = 2 * api.MaxTokens
	// mostItems is more than the items of what flat.Make makes: of each part of a grammar come at most three, and one of each rule.
	mostItems = 4 * api.MaxExprs
)

// sound tells whether a plain grammar is fit, and no greater than what flat.Make makes, and a row is not too long.
func sound(f api.Flat, l []int) bool {
	items := 0
	for _, p := range f.Prods {
		items += len(p.Right)
	}
	return len(l) <= mostRow && items <= mostItems && flat.Fit(f)
}

// costs is what the ways that are ahead cost and count, by spots: of each symbol; and of the items of each production, from each one on, and behind all.
type costs struct {
	api.Flat
	row     []int
	symbols [][]price
	tails   [][][]price
}

// spot is the number of a place, of the tokens from one up to another one: places are numbered by their ends, those of one end by where they begin.
func spot(from, to int) int {
	return to*(to+1)/2 + from
}

// costsOf is the costs of a grammar in a row, all sunk. False, if they would not end to sink: a symbol comes of itself alone, as none does that flat.Make makes.
func costsOf(f api.Flat, l []int) (*costs, bool) {
	c := highCosts(f, l)
	for from, to := range c.places() {
		if !c.settle(from, to) {
			return nil, false
		}
	}
	return c, true
}

// highCosts is costs of which those of terminals are known, and no others.
func highCosts(f api.Flat, l []int) *costs {
	c := &costs{Flat: f, row: l}
	for term := range f.Terms {
		c.symbols = append(c.symbols, c.ofTerminal(term))
	}
	for range f.Nons {
		c.symbols = append(c.symbols, c.high())
	}
	nothing := c.high()
	for at := range len(l) + 1 {
		nothing[spot(at, at)] = price{}
	}
	for _, p := range f.Prods {
		var tails [][]price
		for range p.Right {
			tails = append(tails, c.high())
		}
		c.tails = append(c.tails, append(tails, nothing))
	}
	return c
}

// high is the prices of what is nowhere.
func (c *costs) high() []price {
	return slices.Repeat([]price{none()}, spot(0, len(c.row)+1))
}

// ofTerminal is the prices of a terminal: it is missing, or stands behind what is passed over.
func (c *costs) ofTerminal(term int) []price {
	all := c.high()
	for to := range len(c.row) + 1 {
		all[spot(to, to)] = price{cost: missed}
		for from := range to {
			if c.row[to-1] == term {
				all[spot(from, to)].sink(price{cost: passed * (to - from - 1)})
			}
		}
	}
	return all
}

// places hands out the tokens from each up to each other one, all that lie within them ahead.
func (c *costs) places() iter.Seq2[int, int] {
	return func(yield func(int, int) bool) {
		for from := len(c.row); from >= 0; from-- {
			for to := from; to <= len(c.row); to++ {
				if !yield(from, to) {
					return
				}
			}
		}
	}
}

// rounds hands out all productions again and again, as often as costs at one place can sink: in the way that is ahead no symbol lies within itself at one place, as it would cost less without. The last ones go first: rules mostly stand ahead of those that they are made of.
func (c *costs) rounds() iter.Seq[int] {
	return func(yield func(int) bool) {
		for range len(c.Nons) + 1 {
			for prod := range slices.Backward(c.Prods) {
				if !yield(prod) {
					return
				}
			}
		}
	}
}

// settle lets all costs at a place sink, till none does any more: till each production in turn has been asked in vain. False, if that does not come.
func (c *costs) settle(from, to int) bool {
	c.split(from, to)
	left := len(c.Prods)
sinking:
	for prod := range c.rounds() {
		left--
		switch {
		case c.sinks(prod, from, to):
			left = len(c.Prods)
		case left == 0:
			break sinking
		}
	}
	return left == 0
}

// split lets the costs of items sink by where the first one may end within a place: this hangs on nothing that sinks there, so once is enough.
func (c *costs) split(from, to int) {
	for prod, p := range c.Prods {
		for dot := range p.Right {
			for end := from + 1; end < to; end++ {
				c.tails[prod][dot][spot(from, to)].sink(c.by(prod, dot, from, end, to))
			}
		}
	}
}

// sinks lets the costs of a production sink, and its symbol's. It tells whether these have.
func (c *costs) sinks(prod, from, to int) bool {
	p := c.Prods[prod]
	for dot := range slices.Backward(p.Right) {
		tail := &c.tails[prod][dot][spot(from, to)]
		tail.sink(c.by(prod, dot, from, from, to))
		tail.sink(c.by(prod, dot, from, to, to))
	}
	return c.symbols[p.Left][spot(from, to)].sink(c.whole(prod, from, to))
}

// by is the price of a production's items from a dot on, the first of them up to an end.
func (c *costs) by(prod, dot, from, end, to int) price {
	item := c.symbols[c.Prods[prod].Right[dot].Sym]
	return item[spot(from, end)].with(c.tails[prod][dot+1][spot(end, to)])
}

// whole is the price of a production's Left by it.
func (c *costs) whole(prod, from, to int) price {
	return c.tails[prod][0][spot(from, to)].with(price{count: c.Prods[prod].Prec})
}

// end is where the first of Nons ends in the whole that is ahead; false, if there is none. The last place is asked first: where the price is the same, the less Rest is ahead.
func (c *costs) end() (int, bool) {
	best, at := none(), -1
	for to := len(c.row); to >= 0; to-- {
		rest := price{cost: passed * (len(c.row) - to)}
		if best.sink(c.symbols[len(c.Terms)][spot(0, to)].with(rest)) {
			at = to
		}
	}
	return at, at >= 0
}
