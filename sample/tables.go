package sample

import (
	"iter"

	"bramble/api"
)

// Tables hands out every one of so many states that can be a plain grammar's, but without Goes by terminals, and without Accept.
func Tables(f api.Flat, states int) iter.Seq[api.Table] {
	rows := 1 << len(f.Prods)
	for range f.Terms {
		rows *= (states + 1) << len(f.Prods)
	}
	for range f.Nons {
		rows *= states + 1
	}
	all := 1
	for range states {
		all *= rows
	}
	return func(yield func(api.Table) bool) {
		for n := range all {
			var t api.Table
			for rest := n; len(t.Rows) < states; rest /= rows {
				t.Rows = append(t.Rows, rowBy(f, states, rest%rows))
			}
			if !yield(t) {
				return
			}
		}
	}
}

// rowBy is a row by its number among all of them.
func rowBy(f api.Flat, states, n int) api.Row {
	next := func(many int) int {
		digit := n % many
		n /= many
		return digit
	}
	var r api.Row
	for look := range len(f.Terms) + 1 {
		a := api.Act{Look: look, To: -1}
		if look < len(f.Terms) {
			a.To = next(states+1) - 1
		}
		for prod := range f.Prods {
			if next(2) == 1 {
				a.Reduce = append(a.Reduce, prod)
			}
		}
		if a.To >= 0 || len(a.Reduce) > 0 {
			r.Acts = append(r.Acts, a)
		}
	}
	for non := range f.Nons {
		if to := next(states+1) - 1; to >= 0 {
			r.Goes = append(r.Goes, api.Go{Sym: len(f.Terms) + non, To: to})
		}
	}
	return r
}

// BusyTable is tables of so many states that are drawn, and that can be a plain grammar's: most states shift ahead of most terminals and go by most symbols, so that rows are long alive; of the productions one of so many is in each Reduce.
func BusyTable(seed *Seed, f api.Flat, states, oneOf int) api.Table {
	var t api.Table
	for range states {
		var r api.Row
		for look := range len(f.Terms) + 1 {
			a := busyAct(seed, f, states, oneOf, look)
			if a.To >= 0 || len(a.Reduce) > 0 || a.Accept {
				r.Acts = append(r.Acts, a)
			}
		}
		for sym := range len(f.Terms) + len(f.Nons) {
			if seed.Below(4) > 0 {
				r.Goes = append(r.Goes, api.Go{Sym: sym, To: seed.Below(states)})
			}
		}
		t.Rows = append(t.Rows, r)
	}
	return t
}

// busyAct is an Act of a Look that is drawn; it may do nothing.
func busyAct(seed *Seed, f api.Flat, states, oneOf, look int) api.Act {
	a := api.Act{Look: look, To: -1}
	for prod := range f.Prods {
		if seed.Below(oneOf) == 0 {
			a.Reduce = append(a.Reduce, prod)
		}
	}
	if look == len(f.Terms) {
		a.Accept = seed.Below(3) == 0
	} else if seed.Below(5) > 0 {
		a.To = seed.Below(states)
	}
	return a
}
