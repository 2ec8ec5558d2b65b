package chart

import (
	"slices"

	"bramble/api"
)

// span is a symbol with the tokens of which it comes.
type span struct{ sym, from, to int }

// waysByWords is every way of each symbol, from each token up to each other one: those of a height more again and again, till there are no others. False, if there are too many.
func waysByWords(f api.Flat, l []int) (map[span][]api.Der, bool) {
	known, all := map[span][]api.Der{}, 0
	for {
		next, many := map[span][]api.Der{}, 0
		for at, term := range l {
			if 0 <= term && term < len(f.Terms) {
				next[span{term, at, at + 1}] = []api.Der{{Sym: term, Prod: -1, From: at, To: at + 1}}
				many++
			}
		}
		for prod, p := range f.Prods {
			for from := range len(l) + 1 {
				for _, kids := range kidsByWords(known, p.Right, from, len(l)) {
					d := api.Der{Sym: p.Left, Prod: prod, From: from, To: from, Kids: kids}
					if len(kids) > 0 {
						d.To = kids[len(kids)-1].To
					}
					next[span{d.Sym, d.From, d.To}] = append(next[span{d.Sym, d.From, d.To}], d)
					many++
				}
			}
		}
		if many == all {
			return next, true
		}
		if many > 4000 {
			return nil, false
		}
		known, all = next, many
	}
}

// kidsByWords is every row of known ways of items, one behind the other, from a token on.
func kidsByWords(known map[span][]api.Der, items []api.Item, from, last int) [][]api.Der {
	if len(items) == 0 {
		return [][]api.Der{nil}
	}
	var all [][]api.Der
	for to := from; to <= last; to++ {
		for _, first := range known[span{items[0].Sym, from, to}] {
			for _, behind := range kidsByWords(known, items[1:], to, last) {
				all = append(all, append([]api.Der{first}, behind...))
			}
		}
	}
	return all
}

func precByWords(f api.Flat, d api.Der) int {
	count := 0
	for prod, p := range f.Prods {
		if prod == d.Prod {
			count = p.Prec
		}
	}
	for _, kid := range d.Kids {
		count += precByWords(f, kid)
	}
	return count
}

func aheadByWords(f api.Flat, a, b api.Der) bool {
	if more, less := precByWords(f, a), precByWords(f, b); more != less {
		return more > less
	}
	if a.Prod != b.Prod {
		return a.Prod < b.Prod
	}
	for i := 0; i < len(a.Kids) && i < len(b.Kids); i++ {
		x, y := a.Kids[i], b.Kids[i]
		if alikeByWords(x, y) {
			continue
		}
		if x.To != y.To {
			return x.To > y.To
		}
		return aheadByWords(f, x, y)
	}
	return false
}

// alikeByWords tells whether two ways do not differ in anything; an empty list is none.
func alikeByWords(a, b api.Der) bool {
	fields := func(d api.Der) [5]int { return [5]int{d.Sym, d.Prod, d.From, d.To, d.Junk} }
	return fields(a) == fields(b) && slices.EqualFunc(a.Kids, b.Kids, alikeByWords)
}

func fitByWords(f api.Flat, l []int, d api.Der) bool {
	if d.From < 0 || d.To > len(l) || d.Junk != 0 || d.Sym < 0 || d.Sym >= len(f.Terms)+len(f.Nons) {
		return false
	}
	if d.Sym < len(f.Terms) {
		return d.Prod == -1 && d.To == d.From+1 && d.From < len(l) && l[d.From] == d.Sym && len(d.Kids) == 0
	}
	for prod, p := range f.Prods {
		if prod != d.Prod || p.Left != d.Sym || len(p.Right) != len(d.Kids) {
			continue
		}
		ends := []int{d.From}
		for i, kid := range d.Kids {
			if kid.Sym != p.Right[i].Sym || kid.From != ends[i] || !fitByWords(f, l, kid) {
				return false
			}
			ends = append(ends, kid.To)
		}
		return d.To == ends[len(ends)-1]
	}
	return false
}

// bestByWords is, of ways, the one that is ahead of all others.
func bestByWords(f api.Flat, all []api.Der) (api.Der, bool) {
	for i, d := range all {
		first := true
		for k, other := range all {
			first = first && (i == k || aheadByWords(f, d, other))
		}
		if first {
			return d, true
		}
	}
	return api.Der{}, false
}
