package sample

import (
	"math"
	"slices"

	"bramble/api"
)

// OddFlats is plain grammars with something that can not be, and some at the edge of it: of most nothing is promised but that calls end.
func OddFlats() []api.Flat {
	all := []api.Flat{
		{},
		{Terms: []string{"x"}},
		{Prods: []api.Prod{{}}},
		{Terms: []string{"x"}, Prods: []api.Prod{{Left: 0, Right: Items(0)}}},
		{Terms: []string{"x"}, Prods: []api.Prod{{Left: 1, Right: Items(0)}}},
		{Terms: []string{""}, Nons: []string{""}, Prods: []api.Prod{{Left: 1, Right: []api.Item{{Sym: 0, Field: " "}}, Prec: math.MaxInt}}},
		FlatOf("x", "a b", "b -> a; a -> b; b -> x; a ->"),
	}
	for _, sym := range []int{0, 1, 2, 3, 4, -1, 64, 600, math.MaxInt, math.MinInt, math.MaxInt32, math.MinInt32} {
		for at := range 3 {
			f := FlatOf("x y", "a b", "a -> b x; b ->; b -> a y b")
			f.Prods[at].Left = sym
			g := FlatOf("x y", "a b", "a -> b x; b -> y; b -> a y b")
			g.Prods[at].Right[len(g.Prods[at].Right)-1].Sym = sym
			all = append(all, f, g)
		}
	}
	for _, many := range []int{65, 401, 601, 100000} {
		f, g := Symbols(0, many), Symbols(many, 1)
		for i := range many {
			f.Prods = append(f.Prods, api.Prod{Left: i, Right: Items(min(i+1, many-1))})
			g.Prods = append(g.Prods, api.Prod{Left: many, Right: Items(many, i)})
		}
		f.Prods[many-1].Right = nil
		all = append(all, f, g,
			api.Flat{Nons: []string{"a"}, Prods: slices.Repeat([]api.Prod{{}, {Right: Items(0, 0)}}, many)},
			api.Flat{Terms: []string{"x"}, Nons: []string{"a"}, Prods: []api.Prod{{Left: 1, Right: slices.Repeat(Items(1, 0), many)}}},
			Symbols(many, many), Symbols(0, many), Symbols(many, 0))
	}
	return all
}

// FitFlats is plain grammars that are fit, but none that flat.Make could make. The one at place 1 comes of nothing in more parts than any list can hold.
func FitFlats() []api.Flat {
	full, pairs, chain := Symbols(200, 400), Symbols(1, 400), Symbols(1, 399)
	for i := range 400 {
		full.Prods = append(full.Prods, api.Prod{Left: 200 + i, Right: slices.Repeat(Items(200+(i+1)%400), 64)})
		pairs.Prods = append(pairs.Prods, api.Prod{Left: 1 + i, Right: Items(2+i, 2+i)})
	}
	pairs.Prods[399].Right = nil
	for i := range 399 {
		chain.Prods = append(chain.Prods, api.Prod{Left: 1 + i, Right: Items(1+(i+1)%399, 1+i, 1+(i+1)%399)})
	}
	chain.Prods = append(chain.Prods, api.Prod{Left: 399})
	wide := FlatOf("x", "a", "a ->")
	for range 24 {
		wide.Prods = append(wide.Prods, api.Prod{Left: 1, Right: slices.Repeat(Items(1), 64)})
	}
	opts := FlatOf("x", "a b", "")
	for range 397 {
		opts.Prods = append(opts.Prods, api.Prod{Left: 1, Right: append(Items(1, 0), slices.Repeat(Items(2), 62)...)})
	}
	opts.Prods = append(opts.Prods, api.Prod{Left: 1}, api.Prod{Left: 2}, api.Prod{Left: 2, Right: Items(0)})
	return []api.Flat{full, pairs, chain, wide, opts, LeftOnes(), FlatOfSets(600, true)}
}
