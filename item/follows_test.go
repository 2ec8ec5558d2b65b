package item

import (
	"fmt"
	"slices"
	"testing"

	"bramble/api"
	"bramble/flat"
	"bramble/sample"
	"bramble/sets"
)

// within tells whether all of one list is in another one, both in order.
func within(l, m []api.Lr) bool {
	return !slices.ContainsFunc(l, func(x api.Lr) bool { return !slices.Contains(m, x) })
}

// holdClosed fails where Closure of a Closure is not it, or does not have what it is of.
func holdClosed(t *testing.T, f api.Flat, l []api.Lr) {
	t.Helper()
	set := Closure(f, l)
	if again := Closure(f, set); !slices.Equal(again, set) {
		t.Fatalf("%s: Closure of %v is %v, not it", flat.Show(f), set, again)
	}
	for _, x := range l {
		if slices.Contains(set, x) != Fit(f, x) {
			t.Fatalf("%s: Closure of %v is %v", flat.Show(f), l, set)
		}
	}
}

// holdGrowth fails where Closure of some items is less than of some of them, or Goto is.
func holdGrowth(t *testing.T, f api.Flat, l, more []api.Lr) {
	t.Helper()
	all := slices.Concat(more, l)
	if !within(Closure(f, l), Closure(f, all)) {
		t.Fatalf("%s: Closure of %v is %v, of %v it is %v", flat.Show(f), l, Closure(f, l), all, Closure(f, all))
	}
	for sym := range len(f.Terms) + len(f.Nons) {
		if !within(Goto(f, l, sym), Goto(f, all, sym)) {
			t.Fatalf("%s: Goto of %v by %d is more than of %v", flat.Show(f), l, sym, all)
		}
	}
}

// P11.5 of each item, and of each pair.
func TestClosureOfClosureOfCases(t *testing.T) {
	for _, c := range closureCases() {
		f := plain(t, c.terms, c.nons, c.prods)
		holdClosed(t, f, sample.Lrs(f, c.l))
		holdClosed(t, f, every(f))
		for _, x := range every(f) {
			holdClosed(t, f, []api.Lr{x})
			holdGrowth(t, f, []api.Lr{x}, sample.Lrs(f, c.l))
			for _, y := range every(f) {
				holdClosed(t, f, []api.Lr{x, y})
				if !within(Closure(f, []api.Lr{x}), Closure(f, []api.Lr{x, y})) || !within(Closure(f, []api.Lr{x}), Closure(f, []api.Lr{y, x})) {
					t.Fatalf("%s: with %v there is less of %v", c.what, y, x)
				}
			}
		}
	}
}

// P11.5 of drawn ones; the sets of All, and what is told of any symbol, are closed.
func TestClosureOfClosureOfDrawn(t *testing.T) {
	seed := sample.Seed(23)
	for n := range 3000 {
		f := sample.Flat(&seed, sample.Symbols(seed.Below(5), 1+seed.Below(5)), 2+seed.Below(9), 1+n%4)
		l := drawn(&seed, f, seed.Below(6))
		holdClosed(t, f, l)
		holdGrowth(t, f, l, drawn(&seed, f, 1+seed.Below(6)))
		all, _ := All(f)
		for _, set := range all {
			holdClosed(t, f, set)
		}
		for sym := range len(f.Terms) + len(f.Nons) {
			holdClosed(t, f, Goto(f, l, sym))
		}
	}
}

// prefixes is every beginning, of at most so many symbols, of a row that comes of the first of Nons by the steps of P11.6, as texts. What lies behind a symbol that is replaced goes, so that no row need be longer than a beginning and a right side.
func prefixes(f api.Flat, most int) map[string]int {
	all, met := map[string]int{}, map[string]int{}
	waiting := [][]int{{len(f.Terms)}}
	for at := 0; at < len(waiting); at++ {
		row := waiting[at]
		for n := range min(len(row), most) + 1 {
			all[fmt.Sprint(row[:n])] = 1
		}
		for n, sym := range row[:min(len(row), most+1)] {
			for prod, p := range f.Prods {
				if p.Left != sym {
					continue
				}
				next := slices.Concat(row[:n], syms(f, prod))
				if key := fmt.Sprint(next); met[key] == 0 {
					met[key] = 1
					waiting = append(waiting, next)
				}
			}
		}
	}
	return all
}

// led is every row of at most so many symbols by which one comes from First to something, as texts.
func led(f api.Flat, most int) map[string]int {
	all := map[string]int{}
	var lead func(row []int, set []api.Lr)
	lead = func(row []int, set []api.Lr) {
		if len(set) == 0 {
			return
		}
		all[fmt.Sprint(row)] = 1
		for sym := 0; len(row) < most && sym < len(f.Terms)+len(f.Nons); sym++ {
			lead(append(slices.Clone(row), sym), Goto(f, set, sym))
		}
	}
	lead([]int{}, First(f))
	return all
}

// holdPrefixes fails where one does not come along a beginning of a row, though each symbol is Useful, or comes along something else. It tells whether each is Useful, and how many rows there are.
func holdPrefixes(t *testing.T, f api.Flat, most int) (bool, int) {
	t.Helper()
	useful := !slices.Contains(sets.Useful(f), false)
	rows, along := prefixes(f, most), led(f, most)
	for row := range rows {
		if useful && along[row] == 0 {
			t.Fatalf("%s: there is no Goto along %s", flat.Show(f), row)
		}
	}
	for row := range along {
		if rows[row] == 0 {
			t.Fatalf("%s: there is a Goto along %s, which begins no row", flat.Show(f), row)
		}
	}
	return useful, len(rows)
}

// P11.6 of every plain grammar of a few symbols and productions.
func TestPrefixesOfAll(t *testing.T) {
	for _, c := range []struct{ terms, nons, prods, items, most int }{{1, 2, 3, 2, 4}, {2, 1, 3, 2, 4}, {1, 1, 3, 3, 5}, {0, 2, 3, 2, 5}} {
		useful := 0
		for f := range sample.Flats(sample.Symbols(c.terms, c.nons), c.prods, c.items) {
			if all, _ := holdPrefixes(t, f, c.most); all {
				useful++
			}
		}
		if useful < 50 {
			t.Errorf("%d with Useful symbols alone", useful)
		}
	}
}

// P11.6 of the cases, and of drawn ones.
func TestPrefixesOfDrawn(t *testing.T) {
	for _, c := range closureCases() {
		holdPrefixes(t, plain(t, c.terms, c.nons, c.prods), 4)
	}
	seed := sample.Seed(24)
	useful, long := 0, 0
	for n := range 2000 {
		f := sample.Flat(&seed, sample.Symbols(1+seed.Below(4), 1+seed.Below(4)), 5+seed.Below(6), 1+n%4)
		all, rows := holdPrefixes(t, f, 4)
		if all {
			useful++
		}
		if all && rows > 50 {
			long++
		}
	}
	if useful < 200 || long < 50 {
		t.Errorf("%d with Useful symbols alone, %d of them with more than 50 rows", useful, long)
	}
}

// Where a symbol derives no row, one may come along less: that is why P11.6 asks for Useful ones.
func TestPrefixesOfUseless(t *testing.T) {
	f := plain(t, "x", "a b c", "a -> b c; b -> x; c -> c")
	if prefixes(f, 1)["[0]"] == 0 || led(f, 1)["[0]"] != 0 {
		t.Errorf("%v are rows, %v lead somewhere", prefixes(f, 1), led(f, 1))
	}
}
