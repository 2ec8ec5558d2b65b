package mend

import (
	"cmp"

	"bramble/api"
	"bramble/chart"
)

// What a token costs.
const (
	passed = 2 // that is passed over
	missed = 3 // that is missing
)

// Prods of ways of terminals.
const (
	ofToken   = -1
	ofMissing = -2
)

// mostCount is more than any way counts that is told. What would count more is taken to count just that: numbers that wrap round could rise and sink for ever.
const mostCount = 1 << 50

// price is what a way costs, and what it counts.
type price struct {
	cost  int
	count int
}

// none is the price of what there is not: it costs more than a mending may.
func none() price {
	return price{cost: api.MaxCost + 1}
}

func ownCost(d api.Der) int {
	cost := passed * d.Junk
	if d.Prod == ofMissing {
		cost += missed
	}
	return cost
}

// ownPrice is a way's price without its kids'.
func ownPrice(f api.Flat, d api.Der) price {
	return price{cost: ownCost(d), count: chart.Prec(f, api.Der{Prod: d.Prod})}
}

func (a price) with(b price) price {
	return price{cost: a.cost + b.cost, count: max(-mostCount, min(mostCount, a.count+b.count))}
}

// against is above 0, if a is ahead of b, and below 0, if b is ahead.
func (a price) against(b price) int {
	return cmp.Or(cmp.Compare(b.cost, a.cost), cmp.Compare(a.count, b.count))
}

// sink makes a price another one, if that is ahead of it, and no more than a mending may cost. It tells whether it has.
func (a *price) sink(to price) bool {
	if to.cost > api.MaxCost || to.against(*a) <= 0 {
		return false
	}
	*a = to
	return true
}
