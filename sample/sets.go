package sample

import (
	"slices"

	"bramble/api"
)

// FlatOfSets is a plain grammar that has so many sets of items, two or more: the whole comes of rows that each begin with a terminal of their own, so that there is a set for each of their items, one for the whole, and the first one. If they end with the whole, too, they lead to one another again.
func FlatOfSets(sets int, again bool) api.Flat {
	const most = 64
	left := sets - 2
	many := (left + most - 1) / most
	f := Symbols(many+1, 1)
	for i := range many {
		right := append(Items(i), slices.Repeat(Items(many), min(left, most)-1)...)
		left -= len(right)
		if again && len(right) > 1 {
			right[len(right)-1].Sym = many + 1
		}
		f.Prods = append(f.Prods, api.Prod{Left: many + 1, Right: right})
	}
	return f
}

// LeftOnes is the greatest plain grammar of which each item is begun ahead of all terminals: the whole comes of itself and a terminal, one production after another, or of nothing.
func LeftOnes() api.Flat {
	const terms = 399
	f := Symbols(terms, 1)
	for term := range terms {
		f.Prods = append(f.Prods, api.Prod{Left: terms, Right: Items(terms, term)})
	}
	f.Prods = append(f.Prods, api.Prod{Left: terms})
	return f
}
