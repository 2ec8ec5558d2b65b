package sets

import (
	"fmt"
	"slices"
	"testing"

	"bramble/api"
	"bramble/flat"
	"bramble/sample"
)

// wholeOf is all that is told of a plain grammar, as text.
func wholeOf(f api.Flat) string {
	return fmt.Sprint(Empty(f), Useful(f), First(f), Follow(f))
}

// byHeight tells of each symbol whether it derives a row of terminals that may be there: in no steps, in one, and so on; a symbol that comes again below itself could be left out, so that as many steps as there are Nons are enough.
func byHeight(f api.Flat, terms bool) []bool {
	known := make([]bool, len(names(f)))
	for term := range f.Terms {
		known[term] = terms
	}
	for range f.Nons {
		next := slices.Clone(known)
		for _, p := range f.Prods {
			all := true
			for _, i := range p.Right {
				all = all && known[i.Sym]
			}
			next[p.Left] = next[p.Left] || all
		}
		known = next
	}
	return known
}

// arrows is from which sets to which others that are within them one can go.
type arrows map[[2]int]int

// reached is, of each set, the sets to which one comes from it, itself too.
func (a arrows) reached(sets int) [][]bool {
	to := make([][]int, sets)
	for arrow := range a {
		to[arrow[0]] = append(to[arrow[0]], arrow[1])
	}
	all := make([][]bool, sets)
	for from := range all {
		all[from] = make([]bool, sets)
		all[from][from] = true
		for waiting := []int{from}; len(waiting) > 0; {
			at := waiting[len(waiting)-1]
			waiting = waiting[:len(waiting)-1]
			for _, next := range to[at] {
				if !all[from][next] {
					all[from][next] = true
					waiting = append(waiting, next)
				}
			}
		}
	}
	return all
}

// canAll tells whether all items can be empty.
func canAll(l []api.Item, empty []bool) bool {
	for _, i := range l {
		if !empty[i.Sym] {
			return false
		}
	}
	return true
}

// firstByWords is First by what it says of the sets: from each Left one goes to each item ahead of which all can be empty, and what is in a set is the terminals to which one comes.
func firstByWords(f api.Flat) [][]int {
	empty := byHeight(f, false)
	within := arrows{}
	for _, p := range f.Prods {
		for at, i := range p.Right {
			if canAll(p.Right[:at], empty) {
				within[[2]int{p.Left, i.Sym}] = 1
			}
		}
	}
	told := make([][]int, len(names(f)))
	for sym, reached := range within.reached(len(told)) {
		for term := range f.Terms {
			if reached[term] {
				told[sym] = append(told[sym], term)
			}
		}
	}
	return told
}

// followByWords is Follow by what it says of the sets: from an item one goes to Left, if all behind it can be empty, and what is in a set is what stands behind the items to which one comes, or is the end.
func followByWords(f api.Flat) [][]int {
	empty, first := byHeight(f, false), firstByWords(f)
	end := len(f.Terms)
	within := arrows{}
	own := make([][]int, len(names(f)))
	own[end] = []int{end}
	for _, p := range f.Prods {
		for at, i := range p.Right {
			if i.Sym < end {
				continue
			}
			rest := p.Right[at+1:]
			for k, next := range rest {
				if canAll(rest[:k], empty) {
					own[i.Sym] = append(own[i.Sym], first[next.Sym]...)
				}
			}
			if canAll(rest, empty) {
				within[[2]int{i.Sym, p.Left}] = 1
			}
		}
	}
	told := make([][]int, len(names(f)))
	for sym, reached := range within.reached(len(told)) {
		if sym < end {
			continue
		}
		for other := range told {
			if reached[other] {
				told[sym] = append(told[sym], own[other]...)
			}
		}
		slices.Sort(told[sym])
		told[sym] = slices.Compact(told[sym])
	}
	return told
}

// aheadByWords is Ahead: what some of the items, or behind, begins with.
func aheadByWords(f api.Flat, l []api.Item, behind []int) []int {
	empty, first := byHeight(f, false), firstByWords(f)
	l = slices.DeleteFunc(slices.Clone(l), func(i api.Item) bool { return i.Sym < 0 || i.Sym >= len(empty) })
	var told []int
	for at, i := range l {
		if canAll(l[:at], empty) {
			told = append(told, first[i.Sym]...)
		}
	}
	if canAll(l, empty) {
		told = append(told, behind...)
	}
	slices.Sort(told)
	return slices.Compact(told)
}

// equal tells whether lists are the same, where none is an empty one.
func equal(a, b [][]int) bool {
	return slices.EqualFunc(a, b, slices.Equal[[]int])
}

// agree fails where something else is told than the chapter's words say.
func agree(t *testing.T, f api.Flat) {
	t.Helper()
	if !flat.Fit(f) {
		t.Fatalf("%v is not fit", f)
	}
	if got, want := Empty(f), byHeight(f, false); !slices.Equal(got, want) {
		t.Fatalf("%s: Empty is %v, not %v", flat.Show(f), got, want)
	}
	if got, want := Useful(f), byHeight(f, true); !slices.Equal(got, want) {
		t.Fatalf("%s: Useful is %v, not %v", flat.Show(f), got, want)
	}
	if got, want := First(f), firstByWords(f); !equal(got, want) {
		t.Fatalf("%s: First is %v, not %v", flat.Show(f), got, want)
	}
	if got, want := Follow(f), followByWords(f); !equal(got, want) {
		t.Fatalf("%s: Follow is %v, not %v", flat.Show(f), got, want)
	}
}

// agreeAhead fails where Ahead of drawn items and numbers is something else.
func agreeAhead(t *testing.T, seed *sample.Seed, f api.Flat) {
	t.Helper()
	var l []api.Item
	for range seed.Below(5) {
		l = append(l, api.Item{Sym: seed.Below(len(names(f))+2) - 1})
	}
	var behind []int
	for range seed.Below(4) {
		behind = append(behind, seed.Below(len(f.Terms)+3)-1)
	}
	if got, want := Ahead(f, l, behind), aheadByWords(f, l, behind); !slices.Equal(got, want) {
		t.Fatalf("%s: Ahead of %v, %v is %v, not %v", flat.Show(f), l, behind, got, want)
	}
}

func TestByWordsOfCases(t *testing.T) {
	for _, c := range plainCases() {
		agree(t, plain(t, c.terms, c.nons, c.prods))
	}
}

// Every plain grammar of a few symbols and productions, in every order.
func TestByWordsOfAll(t *testing.T) {
	seed := sample.Seed(10)
	for _, c := range []struct{ terms, nons, prods, items int }{{2, 2, 3, 2}, {1, 3, 2, 2}, {1, 2, 2, 3}, {0, 2, 4, 2}, {1, 1, 4, 2}, {0, 3, 3, 2}} {
		for f := range sample.Flats(sample.Symbols(c.terms, c.nons), c.prods, c.items) {
			agree(t, f)
			agreeAhead(t, &seed, f)
		}
	}
}

func TestByWordsOfDrawn(t *testing.T) {
	seed := sample.Seed(10)
	empty, useless := 0, 0
	for n := range 20000 {
		symbols := sample.Symbols(seed.Below(6), 1+seed.Below(8))
		f := sample.Flat(&seed, symbols, seed.Below(25), 1+n%5)
		agree(t, f)
		agreeAhead(t, &seed, f)
		if slices.Contains(Empty(f), true) {
			empty++
		}
		if slices.Contains(Useful(f), false) {
			useless++
		}
	}
	if empty < 2000 || useless < 2000 {
		t.Errorf("%d can be empty, %d derive none", empty, useless)
	}
}

// What is told does not hang on which production of a symbol stands first, nor on which number a symbol has.
func TestByWordsInEitherOrder(t *testing.T) {
	seed := sample.Seed(11)
	for range 5000 {
		f := sample.Flat(&seed, sample.Symbols(3, 6), 12, 3)
		turned := sample.RoomyFlat(f)
		slices.Reverse(turned.Prods)
		// The first of Nons stays where it is: it is the whole.
		turn := func(sym int) int {
			if sym <= 3 {
				return sym
			}
			return 12 - sym
		}
		for i, p := range turned.Prods {
			turned.Prods[i].Left = turn(p.Left)
			for k := range p.Right {
				p.Right[k].Sym = turn(p.Right[k].Sym)
			}
		}
		slices.SortStableFunc(turned.Prods, func(a, b api.Prod) int { return a.Left - b.Left })
		if !flat.Fit(turned) {
			t.Fatal("not fit")
		}
		for sym := range 9 {
			to := turn(sym)
			if Empty(f)[sym] != Empty(turned)[to] || Useful(f)[sym] != Useful(turned)[to] ||
				!slices.Equal(First(f)[sym], First(turned)[to]) || !slices.Equal(Follow(f)[sym], Follow(turned)[to]) {
				t.Fatalf("%s and %s differ at %d", flat.Show(f), flat.Show(turned), sym)
			}
		}
	}
}
