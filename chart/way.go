package chart

import (
	"cmp"

	"bramble/api"
)

// What is greater has no end, as far as a call goes: a list can hold itself. An answer of so many parts has as many bytes as the document lets one have.
const (
	mostParts = 1 << 25
	mostDeep  = 1 << 16
)

// Prod of a way of a terminal.
const ofTerminal = -1

// hasEnd is asked ahead of all that goes through a whole way, so that nothing else has to count.
func hasEnd(d api.Der) bool {
	return partsLeft(d, mostParts, mostDeep) >= 0
}

// partsLeft is how many of so many parts a way leaves; below 0, if it has more, or lies deeper than so many within one another.
func partsLeft(d api.Der, parts, deep int) int {
	if deep == 0 {
		return -1
	}
	parts--
	for _, kid := range d.Kids {
		if parts < 0 {
			return -1
		}
		parts = partsLeft(kid, parts, deep-1)
	}
	return parts
}

// ownCount is what a way's production counts.
func ownCount(f api.Flat, d api.Der) int {
	if d.Prod < 0 || d.Prod >= len(f.Prods) {
		return 0
	}
	return f.Prods[d.Prod].Prec
}

func counted(f api.Flat, d api.Der) int {
	count := ownCount(f, d)
	for _, kid := range d.Kids {
		count += counted(f, kid)
	}
	return count
}

// fits tells whether a way can be one of its symbol. That it lies in the row need not be asked of the kids: tokens alone reach from one place to another, and each of them asks by itself.
func fits(f api.Flat, l []int, d api.Der) bool {
	if d.Junk != 0 {
		return false
	}
	if d.Sym < len(f.Terms) {
		return d.Prod == ofTerminal && len(d.Kids) == 0 && stands(l, d.From, d.Sym) && d.To == d.From+1
	}
	return fitsProd(f, l, d)
}

// stands tells whether a terminal is at a place of a row, or behind it.
func stands(l []int, at, term int) bool {
	return term >= 0 && at < len(l) && l[at] == term
}

func fitsProd(f api.Flat, l []int, d api.Der) bool {
	if d.Prod < 0 || d.Prod >= len(f.Prods) {
		return false
	}
	p := f.Prods[d.Prod]
	if p.Left != d.Sym || len(p.Right) != len(d.Kids) {
		return false
	}
	at := d.From
	for i, kid := range d.Kids {
		if kid.Sym != p.Right[i].Sym || kid.From != at || !fits(f, l, kid) {
			return false
		}
		at = kid.To
	}
	return at == d.To
}

// rank is how two ways stand to one another: what each of them counts; which is ahead: the first one, if that is above 0, the second one, if it is below; and whether they are alike, in what the order does not look at, too.
type rank struct {
	first  int
	second int
	ahead  int
	alike  bool
}

// compare is two ways held against one another, part by part at once, so that none is gone through again for each that it lies in.
func compare(f api.Flat, a, b api.Der) rank {
	r := rank{first: ownCount(f, a), second: ownCount(f, b), alike: alikeButKids(a, b) && len(a.Kids) == len(b.Kids)}
	both := min(len(a.Kids), len(b.Kids))
	decided, kids := false, 0
	for i := range both {
		kid := compare(f, a.Kids[i], b.Kids[i])
		r.first += kid.first
		r.second += kid.second
		// Of the first kids that differ neither may be ahead: those behind them play no part all the same.
		if !kid.alike && !decided {
			decided, kids = true, cmp.Or(cmp.Compare(a.Kids[i].To, b.Kids[i].To), kid.ahead)
		}
	}
	for _, kid := range a.Kids[both:] {
		r.first += counted(f, kid)
	}
	for _, kid := range b.Kids[both:] {
		r.second += counted(f, kid)
	}
	r.alike = r.alike && !decided
	r.ahead = cmp.Or(cmp.Compare(r.first, r.second), cmp.Compare(b.Prod, a.Prod), kids)
	return r
}

func alikeButKids(a, b api.Der) bool {
	return a.Sym == b.Sym && a.Prod == b.Prod && a.From == b.From && a.To == b.To && a.Junk == b.Junk
}
