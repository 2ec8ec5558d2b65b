package rex

import (
	"slices"

	"bramble/api"
)

// usable tells whether calls that want a fit expression can work on one. It allows one parenthesis more than Fit: where an RxEmpty stood in a text as nothing, Parse tells it at a depth at which Print's () is the 17th.
func usable(x api.Rex) bool {
	return fits(x, api.MaxDepth+1)
}

// fits tells whether an expression is made as it must be, and what Print writes of it has at most so many parentheses within one another.
func fits(x api.Rex, depth int) bool {
	leaves := api.MaxRex
	return within(x, depth, &leaves)
}

// within is fits, with so many RxEmpty and RxSet left. It goes no further than both allow, so that it ends even where a list holds itself.
func within(x api.Rex, depth int, leaves *int) bool {
	if x.Op == api.RxEmpty {
		depth-- // for its own ()
	}
	if depth < 0 || !wellMade(x) {
		return false
	}
	if len(x.Subs) == 0 {
		*leaves--
		return *leaves >= 0
	}
	for _, sub := range x.Subs {
		inner := depth
		if enclosed(x.Op, sub.Op) {
			inner--
		}
		if !within(sub, inner, leaves) {
			return false
		}
	}
	return true
}

// wellMade tells whether an expression has what its kind wants, its Subs looked at only by their number.
func wellMade(x api.Rex) bool {
	if x.Op == api.RxSet {
		return len(x.Subs) == 0 && len(x.Set) > 0 && isInOrder(x.Set)
	}
	if len(x.Set) > 0 {
		return false
	}
	switch x.Op {
	case api.RxEmpty:
		return len(x.Subs) == 0
	case api.RxCat, api.RxAlt:
		return len(x.Subs) >= 2
	case api.RxStar, api.RxPlus, api.RxOpt:
		return len(x.Subs) == 1
	}
	return false
}

// canBeEmpty tells whether nothing is one of the texts of a usable expression.
func canBeEmpty(x api.Rex) bool {
	switch x.Op {
	case api.RxEmpty, api.RxStar, api.RxOpt:
		return true
	case api.RxCat:
		return !slices.ContainsFunc(x.Subs, func(sub api.Rex) bool { return !canBeEmpty(sub) })
	case api.RxAlt, api.RxPlus:
		return slices.ContainsFunc(x.Subs, canBeEmpty)
	}
	return false
}
