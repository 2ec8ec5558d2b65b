package sets

import (
	"math"
	"slices"
	"testing"

	"bramble/api"
	"bramble/flat"
	"bramble/sample"
)

// numbers is the numbers from one up to another one.
func numbers(from, to int) []int {
	var l []int
	for n := from; n < to; n++ {
		l = append(l, n)
	}
	return l
}

// only is one number.
func only(n int) []int { return []int{n} }

// hold fails where First and Follow of one of Nons are others, or a plain grammar is not fit.
func hold(t *testing.T, what string, f api.Flat, first, follow func(sym int) []int) {
	t.Helper()
	if !flat.Fit(f) {
		t.Fatalf("%s: not fit", what)
	}
	firsts, follows := make([][]int, len(names(f))), make([][]int, len(names(f)))
	for sym := range firsts {
		if sym < len(f.Terms) {
			firsts[sym] = only(sym)
		} else {
			firsts[sym], follows[sym] = first(sym), follow(sym)
		}
	}
	if got := First(f); !equal(got, firsts) {
		t.Errorf("%s: First is %v, not %v", what, got, firsts)
	}
	if got := Follow(f); !equal(got, follows) {
		t.Errorf("%s: Follow is %v, not %v", what, got, follows)
	}
}

// holdAll fails where something else is told of a terminal, or of one of Nons.
func holdAll(t *testing.T, what string, f api.Flat, told []bool, ofTerms, ofNons bool) {
	t.Helper()
	want := slices.Concat(slices.Repeat([]bool{ofTerms}, len(f.Terms)), slices.Repeat([]bool{ofNons}, len(f.Nons)))
	if !slices.Equal(told, want) {
		t.Errorf("%s: %v", what, told)
	}
}

// 400 productions, each of which waits for the next one, or for the one ahead.
func TestLongestChains(t *testing.T) {
	const terms, nons = 200, 400
	last := terms + nons - 1
	down, up, none := sample.Symbols(terms, nons), sample.Symbols(terms, nons), sample.Symbols(terms, nons)
	for i := range nons {
		sym, term := terms+i, api.Item{Sym: i % terms}
		down.Prods = append(down.Prods, api.Prod{Left: sym, Right: []api.Item{{Sym: min(sym+1, last)}, term}})
		up.Prods = append(up.Prods, api.Prod{Left: sym, Right: []api.Item{{Sym: max(sym-1, terms)}, term}})
		none.Prods = append(none.Prods, api.Prod{Left: sym, Right: sample.Items(sym + 1)})
	}
	down.Prods[nons-1].Right, up.Prods[0].Right, none.Prods[nons-1].Right = sample.Items(7), sample.Items(9), nil
	hold(t, "down", down, func(int) []int { return only(7) }, func(sym int) []int {
		if sym == terms {
			return only(terms)
		}
		return only((sym - terms - 1) % terms)
	})
	hold(t, "up", up, func(int) []int { return only(9) }, func(sym int) []int {
		switch sym {
		case terms:
			return []int{1, terms}
		case last:
			return nil
		}
		return only((sym - terms + 1) % terms)
	})
	hold(t, "nothing", none, func(int) []int { return nil }, func(int) []int { return only(terms) })
	for _, f := range []api.Flat{down, up} {
		holdAll(t, "of terminals", f, Empty(f), false, false)
		holdAll(t, "of terminals", f, Useful(f), true, true)
	}
	holdAll(t, "of nothing", none, Empty(none), false, true)
	holdAll(t, "of nothing", none, Useful(none), true, true)
	none.Prods[nons-1].Right = sample.Items(last)
	holdAll(t, "with no way out", none, Empty(none), false, false)
	holdAll(t, "with no way out", none, Useful(none), true, false)
}

// As many terminals as words of bits end at, and as many as there can be.
func TestEachNumberOfTerminals(t *testing.T) {
	for terms := range 600 {
		f := sample.Symbols(terms, 1)
		f.Prods = []api.Prod{{Left: terms}}
		from := max(0, terms-399)
		for term := from; term < terms; term++ {
			f.Prods = append(f.Prods, api.Prod{Left: terms, Right: sample.Items(terms, term)})
		}
		hold(t, "terminals", f, func(int) []int { return numbers(from, terms) }, func(int) []int { return numbers(from, terms+1) })
		if got := Ahead(f, sample.Items(terms), []int{terms}); !slices.Equal(got, numbers(from, terms+1)) {
			t.Errorf("%d terminals: Ahead is %v", terms, got)
		}
	}
}

// 64 items: the first 63 can be empty, or all, or none but those behind the first.
func TestMostItems(t *testing.T) {
	f := sample.Symbols(63, 64)
	f.Prods = []api.Prod{{Left: 63, Right: append(sample.Items(numbers(64, 127)...), sample.Items(0)...)}}
	for i := range 63 {
		f.Prods = append(f.Prods, api.Prod{Left: 64 + i}, api.Prod{Left: 64 + i, Right: sample.Items(62 - i)})
	}
	first := func(sym int) []int {
		if sym == 63 {
			return numbers(0, 63)
		}
		return only(126 - sym)
	}
	hold(t, "63 can be empty", f, first, func(sym int) []int {
		switch sym {
		case 63:
			return only(63)
		case 126:
			return only(0)
		}
		return numbers(0, 126-sym)
	})
	f.Prods[0].Right[63].Sym = 100 // that begins with 26
	hold(t, "all can be empty", f, first, func(sym int) []int {
		switch {
		case sym == 63:
			return only(63)
		case sym == 100:
			return append(numbers(0, 27), 63)
		case sym > 100:
			return append(numbers(0, 126-sym), 26, 63)
		}
		return append(numbers(0, 126-sym), 63)
	})
	if l := Empty(f); !l[63] {
		t.Error("64 items that can be empty are not")
	}
	f.Prods[0].Right[0].Sym = 5
	if l := First(f); !slices.Equal(l[63], []int{5}) {
		t.Errorf("behind a terminal: %v", l[63])
	}
}

// 600 symbols, 400 productions, 64 items.
func TestGreatest(t *testing.T) {
	seed := sample.Seed(14)
	for _, c := range []struct{ terms, nons int }{{300, 300}, {599, 1}, {0, 600}, {590, 10}, {10, 590}, {64, 536}, {63, 537}} {
		for _, most := range []int{64, 3, 1} {
			f := sample.Flat(&seed, sample.Symbols(c.terms, c.nons), 400, most)
			agree(t, f)
			f.Prods[0].Right = slices.Repeat(sample.Items(c.terms), 64)
			agree(t, f)
			agreeAhead(t, &seed, f)
		}
	}
	full := sample.Symbols(200, 400)
	for i := range 400 {
		full.Prods = append(full.Prods, api.Prod{Left: 200 + i, Right: append(slices.Repeat(sample.Items(min(599, 201+i)), 63), sample.Items(i%200)...)})
	}
	full.Prods[399].Right = nil
	agree(t, full)
	agreeAhead(t, &seed, full)
}

// 0.1: whatever a call is given, it ends.
func TestUnfit(t *testing.T) {
	for _, f := range sample.OddFlats() {
		Empty(f)
		Useful(f)
		First(f)
		Follow(f)
		for _, l := range [][]api.Item{nil, sample.Items(0), sample.Items(1, 2, 3), sample.Items(-1, math.MinInt, math.MaxInt, 600), sample.Items(599, 600, 100000)} {
			for _, behind := range [][]int{nil, {0}, {math.MaxInt, -1, math.MinInt, -1}} {
				Ahead(f, l, behind)
			}
		}
	}
}
