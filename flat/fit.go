package flat

import (
	"bramble/api"
	"bramble/gram"
)

// Limits of a plain grammar.
const (
	maxSymbols = 600   // terminals and others
	maxItems   = 64    // of a production
	maxPrec    = 10000 // of a production; it may stand with - ahead
	maxBytes   = 80    // of a symbol's name
)

// symbols is how many symbols there are.
func symbols(f api.Flat) int {
	return len(f.Terms) + len(f.Nons)
}

func isSymbol(f api.Flat, sym int) bool {
	return 0 <= sym && sym < symbols(f)
}

// nameOf is the name of a symbol.
func nameOf(f api.Flat, sym int) string {
	if sym < len(f.Terms) {
		return f.Terms[sym]
	}
	return f.Nons[sym-len(f.Terms)]
}

// fitTexts tells whether texts can be names of symbols.
func fitTexts(l []string) bool {
	for _, s := range l {
		if s == "" || len(s) > maxBytes {
			return false
		}
	}
	return true
}

// fitProd tells whether a production can be, wherever it stands; that its Left is no terminal is told by the order.
func fitProd(f api.Flat, p api.Prod) bool {
	if !isSymbol(f, p.Left) || len(p.Right) > maxItems || p.Prec < -maxPrec || p.Prec > maxPrec {
		return false
	}
	for _, i := range p.Right {
		if !isSymbol(f, i.Sym) || !nameOrNone(i.Field) || !nameOrNone(i.Alias) {
			return false
		}
	}
	return true
}

func nameOrNone(s string) bool {
	return s == "" || gram.Name(s)
}
