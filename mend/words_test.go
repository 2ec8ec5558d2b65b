package mend

import (
	"slices"

	"bramble/api"
	"bramble/chart"
)

// span is a symbol with the tokens of which it comes.
type span struct{ sym, from, to int }

func costByWords(d api.Der) int {
	cost := 2 * d.Junk
	if d.Prod == -2 {
		cost += 3
	}
	for _, kid := range d.Kids {
		cost += costByWords(kid)
	}
	return cost
}

func textByWords(d api.Der) []int {
	var l []int
	if d.Prod < 0 {
		l = append(l, d.Sym)
	}
	for _, kid := range d.Kids {
		l = append(l, textByWords(kid)...)
	}
	return l
}

// fitByWords tells whether a way is a mended one of its symbol, within a row.
func fitByWords(f api.Flat, l []int, d api.Der) bool {
	if d.From < 0 || d.To > len(l) || d.Sym < 0 {
		return false
	}
	if d.Sym < len(f.Terms) {
		missing := d.Prod == -2 && d.Junk == 0 && d.To == d.From
		token := d.Prod == -1 && 0 <= d.Junk && d.Junk <= len(l) && d.To == d.From+d.Junk+1 && l[d.To-1] == d.Sym
		return (missing || token) && len(d.Kids) == 0
	}
	for prod, p := range f.Prods {
		if prod != d.Prod || p.Left != d.Sym || len(p.Right) != len(d.Kids) || d.Junk != 0 {
			continue
		}
		ends := []int{d.From}
		for i, kid := range d.Kids {
			if kid.Sym != p.Right[i].Sym || kid.From != ends[i] || !fitByWords(f, l, kid) {
				return false
			}
			ends = append(ends, kid.To)
		}
		return d.To == ends[len(ends)-1]
	}
	return false
}

func wholeFitByWords(f api.Flat, l []int, m api.Mended) bool {
	return fitByWords(f, l, m.Root) && m.Root.Sym == len(f.Terms) && m.Root.From == 0 && m.Rest >= 0 && m.Root.To+m.Rest == len(l)
}

// alikeByWords tells whether two ways do not differ in anything; an empty list is none.
func alikeByWords(a, b api.Der) bool {
	return a.Sym == b.Sym && a.Prod == b.Prod && a.From == b.From && a.To == b.To && a.Junk == b.Junk &&
		slices.EqualFunc(a.Kids, b.Kids, alikeByWords)
}

func aheadByWords(f api.Flat, a, b api.Der) bool {
	if less, more := costByWords(a), costByWords(b); less != more {
		return less < more
	}
	if more, less := chart.Prec(f, a), chart.Prec(f, b); more != less {
		return more > less
	}
	if a.Prod != b.Prod {
		return a.Prod < b.Prod
	}
	for i := 0; i < len(a.Kids) && i < len(b.Kids); i++ {
		x, y := a.Kids[i], b.Kids[i]
		switch {
		case alikeByWords(x, y):
		case x.To != y.To:
			return x.To > y.To
		default:
			return aheadByWords(f, x, y)
		}
	}
	return false
}

func wholeAheadByWords(f api.Flat, a, b api.Mended) bool {
	if less, more := 2*a.Rest+costByWords(a.Root), 2*b.Rest+costByWords(b.Root); less != more {
		return less < more
	}
	if more, less := chart.Prec(f, a.Root), chart.Prec(f, b.Root); more != less {
		return more > less
	}
	if a.Rest != b.Rest {
		return a.Rest < b.Rest
	}
	return aheadByWords(f, a.Root, b.Root)
}

// mostWays is as many ways as are gone through one by one.
const mostWays = 3000

// waysByWords is every mended way that costs at most so much, of each symbol, from each token up to each other one: those of a height more again and again, till there are no others. False, if there are too many.
func waysByWords(f api.Flat, l []int, most int) (map[span][]api.Der, bool) {
	known, all := map[span][]api.Der{}, 0
	for {
		next, many := map[span][]api.Der{}, 0
		put := func(d api.Der) {
			if costByWords(d) <= most {
				at := span{d.Sym, d.From, d.To}
				next[at] = append(next[at], d)
				many++
			}
		}
		for from := range len(l) + 1 {
			for term := range f.Terms {
				put(api.Der{Sym: term, Prod: -2, From: from, To: from})
				for to := from + 1; to <= len(l); to++ {
					if l[to-1] == term {
						put(api.Der{Sym: term, Prod: -1, From: from, To: to, Junk: to - from - 1})
					}
				}
			}
			for prod, p := range f.Prods {
				for _, kids := range kidsByWords(known, p.Right, from, len(l), most) {
					d := api.Der{Sym: p.Left, Prod: prod, From: from, To: from, Kids: kids}
					if len(kids) > 0 {
						d.To = kids[len(kids)-1].To
					}
					put(d)
				}
			}
		}
		if many == all {
			return next, true
		}
		if many > mostWays {
			return nil, false
		}
		known, all = next, many
	}
}

// kidsByWords is every row of known ways of items, one behind the other, from a token on, that cost at most so much.
func kidsByWords(known map[span][]api.Der, items []api.Item, from, last, most int) [][]api.Der {
	if len(items) == 0 {
		return [][]api.Der{nil}
	}
	var all [][]api.Der
	for to := from; to <= last; to++ {
		for _, first := range known[span{items[0].Sym, from, to}] {
			left := most - costByWords(first)
			if left < 0 {
				continue
			}
			for _, behind := range kidsByWords(known, items[1:], to, last, left) {
				all = append(all, append([]api.Der{first}, behind...))
			}
		}
	}
	return all
}

// wholesByWords is every mended whole that costs at most so much. False, if there are too many ways.
func wholesByWords(f api.Flat, l []int, most int) ([]api.Mended, bool) {
	ways, ok := waysByWords(f, l, most)
	var all []api.Mended
	for to := range len(l) + 1 {
		for _, d := range ways[span{len(f.Terms), 0, to}] {
			if rest := len(l) - to; costByWords(d)+2*rest <= most {
				all = append(all, api.Mended{Root: d, Rest: rest})
			}
		}
	}
	return all, ok
}

// bestByWords is, of wholes, the one that is ahead of all others.
func bestByWords(f api.Flat, all []api.Mended) (api.Mended, bool) {
	for i, m := range all {
		first := true
		for k, other := range all {
			first = first && (i == k || wholeAheadByWords(f, m, other))
		}
		if first {
			return m, true
		}
	}
	return api.Mended{}, false
}

// apart is what it costs to make one row of another one: 2 for each token that is passed over, 3 for each that is missing.
func apart(row, text []int) int {
	costs := make([]int, len(text)+1) // of the tokens so far, and so many of the text
	for i := range costs {
		costs[i] = 3 * i
	}
	for _, token := range row {
		slant := costs[0]
		costs[0] += 2
		for i, term := range text {
			was := costs[i+1]
			costs[i+1] = min(was+2, costs[i]+3)
			if token == term {
				costs[i+1] = min(costs[i+1], slant)
			}
			slant = was
		}
	}
	return costs[len(text)]
}
