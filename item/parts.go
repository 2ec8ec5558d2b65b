package item

import (
	"cmp"

	"bramble/api"
)

// end is the number of the end, as a Look.
func end(f api.Flat) int {
	return len(f.Terms)
}

// right is the items of a production that is there, or of the whole's.
func right(f api.Flat, prod int) []api.Item {
	if prod == whole {
		return []api.Item{{Sym: len(f.Terms)}}
	}
	return f.Prods[prod].Right
}

// beginning is the whole's item, its Dot ahead of all.
func beginning(f api.Flat) []api.Lr {
	return []api.Lr{{Prod: whole, Look: end(f)}}
}

// fitOnes is those of items that are fit.
func fitOnes(f api.Flat, l []api.Lr) []api.Lr {
	var kept []api.Lr
	for _, x := range l {
		if Fit(f, x) {
			kept = append(kept, x)
		}
	}
	return kept
}

// moved is those of items whose Next is a symbol, their Dot behind it.
func moved(f api.Flat, l []api.Lr, sym int) []api.Lr {
	var kept []api.Lr
	for _, x := range l {
		if next, ok := Next(f, x); ok && next == sym {
			x.Dot++
			kept = append(kept, x)
		}
	}
	return kept
}

// order tells which of two items is ahead.
func order(a, b api.Lr) int {
	if a.Prod != b.Prod {
		return cmp.Compare(a.Prod, b.Prod)
	}
	if a.Dot != b.Dot {
		return cmp.Compare(a.Dot, b.Dot)
	}
	return cmp.Compare(a.Look, b.Look)
}
