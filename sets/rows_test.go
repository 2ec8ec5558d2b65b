package sets

import (
	"slices"
	"testing"

	"bramble/api"
	"bramble/flat"
	"bramble/sample"
)

// rows is rows of terminals, a letter each, from a on.
type rows map[string]int

// upTo is what is kept of rows: those of at most so many terminals.
func upTo(most int) func(string) (string, bool) {
	return func(row string) (string, bool) { return row, len(row) <= most }
}

// firstAlone is what is kept of rows: of each its first terminal, so that none is too long.
func firstAlone(row string) (string, bool) {
	return row[:min(len(row), 1)], true
}

// behind is each row of one set with each of another one behind it, as far as they are kept.
func behind(l, m rows, kept func(string) (string, bool)) rows {
	all := rows{}
	for a := range l {
		for b := range m {
			if row, ok := kept(a + b); ok {
				all[row] = 1
			}
		}
	}
	return all
}

// rowsOf is the rows that each symbol derives, as far as they are kept.
func rowsOf(f api.Flat, kept func(string) (string, bool)) []rows {
	known := make([]rows, len(names(f)))
	for sym := range known {
		known[sym] = rows{}
		if sym < len(f.Terms) {
			known[sym][string([]byte{'a' + byte(sym)})] = 1
		}
	}
	for grown := true; grown; {
		grown = false
		for _, p := range f.Prods {
			all := rows{"": 1}
			for _, i := range p.Right {
				all = behind(all, known[i.Sym], kept)
			}
			for row := range all {
				if known[p.Left][row] == 0 {
					known[p.Left][row], grown = 1, true
				}
			}
		}
	}
	return known
}

// begins is the terminals with which rows begin, rising.
func begins(l rows) []int {
	var told []int
	for row := range l {
		if row != "" {
			told = append(told, int(row[0]-'a'))
		}
	}
	slices.Sort(told)
	return slices.Compact(told)
}

// within tells whether all of one list is in another one, both rising.
func within(l, m []int) bool {
	for _, n := range l {
		if _, found := slices.BinarySearch(m, n); !found {
			return false
		}
	}
	return true
}

// holdRows fails where something else is told than the rows of at most so many terminals show; it tells whether all symbols are Useful.
func holdRows(t *testing.T, f api.Flat, most int) bool {
	t.Helper()
	empty, useful, first := Empty(f), Useful(f), First(f)
	all := !slices.Contains(useful, false)
	for sym, l := range rowsOf(f, upTo(most)) {
		if empty[sym] != (l[""] == 1) || useful[sym] != (len(l) > 0) {
			t.Fatalf("%s: symbol %d: empty %v, useful %v, rows %v", flat.Show(f), sym, empty[sym], useful[sym], l)
		}
		if !within(begins(l), first[sym]) || all && !slices.Equal(begins(l), first[sym]) {
			t.Fatalf("%s: symbol %d: First %v, rows %v", flat.Show(f), sym, first[sym], l)
		}
	}
	return all
}

// P10.5, and P10.1 by the rows themselves: every plain grammar of a few symbols and productions.
func TestRowsOfAll(t *testing.T) {
	for _, c := range []struct{ terms, nons, prods, items, most int }{{2, 2, 3, 2, 7}, {2, 1, 2, 3, 7}, {1, 2, 2, 3, 9}, {1, 3, 3, 1, 3}} {
		useful, others := 0, 0
		for f := range sample.Flats(sample.Symbols(c.terms, c.nons), c.prods, c.items) {
			if holdRows(t, f, c.most) {
				useful++
			} else {
				others++
			}
		}
		if useful < 50 || others < 20 {
			t.Errorf("%d with Useful symbols alone, %d others", useful, others)
		}
	}
}

// P10.5 of greater ones, where a row may be long.
func TestBeginsOfDrawn(t *testing.T) {
	seed := sample.Seed(12)
	useful, greater := 0, 0
	for n := range 20000 {
		f := sample.Flat(&seed, sample.Symbols(1+seed.Below(5), 1+seed.Below(7)), 8+seed.Below(20), 1+n%4)
		first := First(f)
		all := !slices.Contains(Useful(f), false)
		if all {
			useful++
		}
		for sym, l := range rowsOf(f, firstAlone) {
			if !within(begins(l), first[sym]) || all && !slices.Equal(begins(l), first[sym]) {
				t.Fatalf("%s: symbol %d: First %v, rows begin with %v", flat.Show(f), sym, first[sym], begins(l))
			}
			if len(begins(l)) < len(first[sym]) {
				greater++
			}
		}
	}
	if useful < 2000 || greater < 2000 {
		t.Errorf("%d with Useful symbols alone; of %d sets no row begins with all", useful, greater)
	}
}

// holdGrown fails where something is told of a plain grammar that is not told any more with a production more.
func holdGrown(t *testing.T, f, more api.Flat) {
	t.Helper()
	if !flat.Fit(more) {
		t.Fatalf("%v is not fit", more)
	}
	smaller := func(was, is []bool) bool {
		for sym := range was {
			if was[sym] && !is[sym] {
				return true
			}
		}
		return false
	}
	if smaller(Empty(f), Empty(more)) || smaller(Useful(f), Useful(more)) {
		t.Fatalf("%s: less can be empty, or is Useful, than of %s", flat.Show(more), flat.Show(f))
	}
	first, follow := First(more), Follow(more)
	for sym, l := range First(f) {
		if !within(l, first[sym]) {
			t.Fatalf("%s: First of %d is smaller than of %s", flat.Show(more), sym, flat.Show(f))
		}
	}
	for sym, l := range Follow(f) {
		if !within(l, follow[sym]) {
			t.Fatalf("%s: Follow of %d is smaller than of %s", flat.Show(more), sym, flat.Show(f))
		}
	}
	for _, p := range f.Prods {
		if !within(Ahead(f, p.Right, []int{-1, 9}), Ahead(more, p.Right, []int{-1, 9})) {
			t.Fatalf("%s: Ahead of %v is smaller than of %s", flat.Show(more), p.Right, flat.Show(f))
		}
	}
}

// with is a plain grammar with a production more, behind those of its Left, or ahead of them.
func with(f api.Flat, p api.Prod, ahead bool) api.Flat {
	at := slices.IndexFunc(f.Prods, func(q api.Prod) bool { return q.Left > p.Left || ahead && q.Left == p.Left })
	if at < 0 {
		at = len(f.Prods)
	}
	f.Prods = slices.Insert(slices.Clone(f.Prods), at, p)
	return f
}

// P10.6.
func TestOneMoreOfAll(t *testing.T) {
	symbols := sample.Symbols(2, 2)
	all := sample.Prods(symbols, 2)
	for f := range sample.Flats(symbols, 2, 2) {
		for i, p := range all {
			holdGrown(t, f, with(f, p, i%2 == 0))
		}
	}
}

func TestOneMoreOfDrawn(t *testing.T) {
	seed := sample.Seed(13)
	for range 200 {
		f := sample.Symbols(4, 6)
		for n := range 30 {
			p := sample.Flat(&seed, f, 1, 4).Prods[0]
			more := with(f, p, n%2 == 0)
			holdGrown(t, f, more)
			f = more
		}
	}
}
