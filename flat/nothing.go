package flat

import (
	"slices"

	"bramble/api"
)

// mostOfNothing is the greatest number of parts in which a symbol comes of nothing; MaxNone and 1, if it is more than MaxNone: the numbers could grow beyond all bounds.
func mostOfNothing(f api.Flat) int {
	most := make([]int, symbols(f)) // of each symbol, as far as it is known; 0: that it comes of nothing is not
	for grown := true; grown; {
		grown = false
		for _, p := range f.Prods {
			if n := partsOfNothing(p, most); n > most[p.Left] {
				most[p.Left], grown = n, true
			}
		}
	}
	return slices.Max(most)
}

// partsOfNothing is in how many parts Left comes of nothing by a production: itself, and those of its items; 0, if one of these does not.
func partsOfNothing(p api.Prod, most []int) int {
	n := 1
	for _, i := range p.Right {
		if most[i.Sym] == 0 {
			return 0
		}
		n = min(n+most[i.Sym], api.MaxNone+1)
	}
	return n
}
