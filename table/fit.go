package table

import "bramble/api"

// isBelow tells whether a number is one of so many, from 0 on.
func isBelow(n, many int) bool {
	return 0 <= n && n < many
}

// rises tells whether each number is greater than the one ahead of it.
func rises[T any](l []T, number func(T) int) bool {
	for i := 1; i < len(l); i++ {
		if number(l[i-1]) >= number(l[i]) {
			return false
		}
	}
	return true
}

func fitActs(f api.Flat, states int, l []api.Act) bool {
	for _, a := range l {
		if !fitPlace(f, states, a) || !fitReduce(f, a.Reduce) || !doesSomething(a) {
			return false
		}
	}
	return rises(l, func(a api.Act) int { return a.Look })
}

// fitPlace tells whether an Act's Look can be, and whether it may shift, or take the whole, ahead of that.
func fitPlace(f api.Flat, states int, a api.Act) bool {
	if a.Look == len(f.Terms) {
		return a.To == nowhere
	}
	return isBelow(a.Look, len(f.Terms)) && !a.Accept && (a.To == nowhere || isBelow(a.To, states))
}

func fitReduce(f api.Flat, l []int) bool {
	for _, prod := range l {
		if !isBelow(prod, len(f.Prods)) {
			return false
		}
	}
	return rises(l, func(prod int) int { return prod })
}

func doesSomething(a api.Act) bool {
	return a.To != nowhere || len(a.Reduce) > 0 || a.Accept
}

func fitGoes(f api.Flat, states int, l []api.Go) bool {
	for _, g := range l {
		if !isBelow(g.Sym, len(f.Terms)+len(f.Nons)) || !isBelow(g.To, states) {
			return false
		}
	}
	return rises(l, func(g api.Go) int { return g.Sym })
}
