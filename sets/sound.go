package sets

import (
	"slices"

	"bramble/api"
)

// The most that a fit plain grammar has.
const (
	maxSymbols = 600 // terminals and others
	maxItems   = 64  // of a production
)

// sound tells whether a plain grammar is near enough to a fit one: a number that is no symbol has no set, and rounds over more than can be fit might go on for ages.
func sound(f api.Flat) bool {
	if len(f.Nons) == 0 || symbols(f) > maxSymbols || len(f.Prods) > api.MaxProds {
		return false
	}
	return !slices.ContainsFunc(f.Prods, func(p api.Prod) bool { return !soundProd(f, p) })
}

func soundProd(f api.Flat, p api.Prod) bool {
	if !isSymbol(f, p.Left) || len(p.Right) > maxItems {
		return false
	}
	return !slices.ContainsFunc(p.Right, func(i api.Item) bool { return !isSymbol(f, i.Sym) })
}

// symbols is how many symbols there are.
func symbols(f api.Flat) int {
	return len(f.Terms) + len(f.Nons)
}

func isSymbol(f api.Flat, sym int) bool {
	return 0 <= sym && sym < symbols(f)
}

// isNon tells of a symbol whether it is one of Nons.
func isNon(f api.Flat, sym int) bool {
	return sym >= len(f.Terms)
}
