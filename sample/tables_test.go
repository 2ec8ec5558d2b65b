package sample

import (
	"fmt"
	"reflect"
	"slices"
	"testing"

	"bramble/api"
)

// fitRow tells whether a row can be one of so many states of a plain grammar's tables.
func fitRow(f api.Flat, states int, r api.Row) bool {
	for i, a := range r.Acts {
		if a.Look > len(f.Terms) || i > 0 && r.Acts[i-1].Look >= a.Look || a.To < -1 || a.To >= states || a.To >= 0 && a.Look == len(f.Terms) {
			return false
		}
		if a.Accept && a.Look < len(f.Terms) || a.To < 0 && len(a.Reduce) == 0 && !a.Accept {
			return false
		}
		for k, prod := range a.Reduce {
			if prod < 0 || prod >= len(f.Prods) || k > 0 && a.Reduce[k-1] >= prod {
				return false
			}
		}
	}
	for i, g := range r.Goes {
		if g.Sym < 0 || g.Sym >= len(f.Terms)+len(f.Nons) || i > 0 && r.Goes[i-1].Sym >= g.Sym || g.To < 0 || g.To >= states {
			return false
		}
	}
	return true
}

func TestTables(t *testing.T) {
	for _, c := range []struct {
		f            api.Flat
		states, want int
	}{
		{FlatOf("x", "a", "a -> x"), 1, 4 * 2 * 2},
		{FlatOf("x", "a", "a -> x"), 2, 36 * 36},
		{FlatOf("x", "a", "a -> x; a ->"), 1, 8 * 4 * 2},
		{FlatOf("", "a b", "a ->"), 2, 18 * 18},
		{FlatOf("x y", "a", ""), 1, 2 * 2 * 2},
		{FlatOf("x", "a", "a -> x"), 0, 1},
	} {
		met := map[string]int{}
		for made := range Tables(c.f, c.states) {
			if len(made.Rows) != c.states {
				t.Fatalf("%v", made)
			}
			for _, r := range made.Rows {
				if !fitRow(c.f, c.states, r) || slices.ContainsFunc(r.Goes, func(g api.Go) bool { return g.Sym < len(c.f.Terms) }) {
					t.Fatalf("%v", made)
				}
			}
			met[fmt.Sprint(made)]++
		}
		if len(met) != c.want {
			t.Errorf("%v, %d states: %d tables, not %d", c.f, c.states, len(met), c.want)
		}
	}
	for range Tables(Symbols(1, 1), 1) {
		break
	}
}

func TestBusyTable(t *testing.T) {
	a, b := Seed(5), Seed(5)
	f := FlatOf("x y", "a b", "a -> x a; a -> y; b ->")
	tos, prods, accepts, goes, both := 0, make([]int, 3), 0, make([]int, 4), 0
	for range 100 {
		made := BusyTable(&a, f, 3, 4)
		if !reflect.DeepEqual(made, BusyTable(&b, f, 3, 4)) {
			t.Fatal("a seed tells other tables")
		}
		for _, r := range made.Rows {
			if !fitRow(f, 3, r) {
				t.Fatalf("%v", made)
			}
			for _, x := range r.Acts {
				if x.To >= 0 {
					tos++
				}
				if x.To >= 0 && len(x.Reduce) > 0 {
					both++
				}
				if x.Accept {
					accepts++
				}
				for _, prod := range x.Reduce {
					prods[prod]++
				}
			}
			for _, g := range r.Goes {
				goes[g.Sym]++
			}
		}
	}
	// Of 300 states, each with two terminals.
	if tos < 400 || tos > 550 || both < 100 || accepts < 50 || slices.Min(prods) < 150 || slices.Max(prods) > 300 || slices.Min(goes) < 180 {
		t.Errorf("%d shift, %d of them reduce, %d accept; each production so often: %v; each symbol: %v", tos, both, accepts, prods, goes)
	}
}
