package mend

import (
	"cmp"
	"iter"

	"bramble/api"
)

// What is greater has no end, as far as a call goes: a list can hold itself. An answer of so many parts has as many bytes as the document lets one have.
const (
	mostParts = 1 << 25
	mostDeep  = 1 << 16
)

// parts hands out all ways in a way, itself too, from the left, each ahead of its kids, and beside each how deep it lies.
func parts(d api.Der) iter.Seq2[int, api.Der] {
	return func(yield func(int, api.Der) bool) {
		handParts(d, 1, yield)
	}
}

func handParts(d api.Der, deep int, yield func(int, api.Der) bool) bool {
	if !yield(deep, d) {
		return false
	}
	for _, kid := range d.Kids {
		if !handParts(kid, deep+1, yield) {
			return false
		}
	}
	return true
}

// hasEnd is asked ahead of all that goes through a whole way, so that nothing else has to count.
func hasEnd(d api.Der) bool {
	many := 0
	for deep := range parts(d) {
		if many++; many > mostParts || deep > mostDeep {
			return false
		}
	}
	return true
}

// fits tells whether a way is a mended one of a symbol, from a place of a row on.
func fits(f api.Flat, l []int, d api.Der, sym, from int) bool {
	switch {
	case d.Sym != sym || d.From != from:
		return false
	case sym >= len(f.Terms):
		return d.Junk == 0 && fitsProd(f, l, d)
	case d.Prod == ofToken:
		return d.Junk >= 0 && d.To == from+d.Junk+1 && stands(l, d.To-1, sym) && len(d.Kids) == 0
	}
	return d.Prod == ofMissing && d.Junk == 0 && d.To == from && len(d.Kids) == 0
}

// stands tells whether a terminal is at a place, wherever that is.
func stands(l []int, at, term int) bool {
	return 0 <= at && at < len(l) && l[at] == term
}

func fitsProd(f api.Flat, l []int, d api.Der) bool {
	if d.Prod < 0 || d.Prod >= len(f.Prods) {
		return false
	}
	p := f.Prods[d.Prod]
	if p.Left != d.Sym || len(p.Right) != len(d.Kids) {
		return false
	}
	at := d.From
	for i, item := range p.Right {
		if !fits(f, l, d.Kids[i], item.Sym, at) {
			return false
		}
		at = d.Kids[i].To
	}
	return at == d.To
}

// rank is how two ways stand to one another: their prices; which is ahead: the first one, if that is above 0, the second one, if it is below; and whether they are alike, in what the order does not look at, too.
type rank struct {
	first  price
	second price
	ahead  int
	alike  bool
}

// compare is two ways held against one another, part by part at once, so that none is gone through again for each that it lies in.
func compare(f api.Flat, a, b api.Der) rank {
	r := compareKids(f, a.Kids, b.Kids)
	r.first = r.first.with(ownPrice(f, a))
	r.second = r.second.with(ownPrice(f, b))
	r.ahead = cmp.Or(r.first.against(r.second), cmp.Compare(b.Prod, a.Prod), r.ahead)
	r.alike = r.alike && fieldsOf(a) == fieldsOf(b)
	return r
}

// compareKids is kids held against one another: the first that differ decide which are ahead, those behind them play no part, also where neither of the first is.
func compareKids(f api.Flat, a, b []api.Der) rank {
	r := rank{alike: true}
	both := min(len(a), len(b))
	for i := range both {
		kid := compare(f, a[i], b[i])
		r.first = r.first.with(kid.first)
		r.second = r.second.with(kid.second)
		if r.alike && !kid.alike {
			r.alike, r.ahead = false, cmp.Or(cmp.Compare(a[i].To, b[i].To), kid.ahead)
		}
	}
	r.first = r.first.with(priceOf(f, a[both:]))
	r.second = r.second.with(priceOf(f, b[both:]))
	r.alike = r.alike && len(a) == len(b)
	return r
}

// priceOf is the price of ways together.
func priceOf(f api.Flat, l []api.Der) price {
	var all price
	for _, d := range l {
		for _, part := range parts(d) {
			all = all.with(ownPrice(f, part))
		}
	}
	return all
}

// fieldsOf is a way but for its kids.
func fieldsOf(d api.Der) [5]int {
	return [5]int{d.Sym, d.Prod, d.From, d.To, d.Junk}
}
