package item

import (
	"slices"
	"strings"
	"testing"

	"bramble/api"
	"bramble/sample"
)

// equalSets tells whether lists of items are the same, one by one.
func equalSets(a, b [][]api.Lr) bool {
	return slices.EqualFunc(a, b, slices.Equal[[]api.Lr])
}

// holdSets fails where All tells other sets than a text has, | between them.
func holdSets(t *testing.T, what string, f api.Flat, want string) {
	t.Helper()
	var sets [][]api.Lr
	for set := range strings.SplitSeq(want, "|") {
		sets = append(sets, sample.Lrs(f, set))
	}
	got, err := All(f)
	if err != api.OK || !equalSets(got, sets) {
		t.Errorf("%s: %v, %v, not %v", what, got, err, sets)
	}
}

// P11.4: set by set, symbol by symbol.
func TestAll(t *testing.T) {
	for _, c := range []struct{ what, terms, nons, prods, want string }{
		{"the chapter's", "x y", "a", "a -> x a; a -> y",
			"-1.0/$ 0.0/$ 1.0/$ | 0.0/$ 0.1/$ 1.0/$ | 1.1/$ | -1.1/$ | 0.2/$"},
		{"no productions", "x y", "a b", "", "-1.0/$ | -1.1/$"},
		{"no terminals, no productions", "", "a", "", "-1.0/0 | -1.1/0"},
		{"no terminals, nothing", "", "a", "a ->", "-1.0/0 0.0/0 | -1.1/0"},
		{"no terminals, others", "", "a b", "a -> b b; b ->", "-1.0/0 0.0/0 1.0/0 | -1.1/0 | 0.1/0 1.0/0 | 0.2/0"},
		{"itself alone: one set by two items", "x", "a", "a -> a", "-1.0/$ 0.0/$ | -1.1/$ 0.1/$"},
		{"itself alone, or a terminal", "x", "a", "a -> a; a -> x", "-1.0/$ 0.0/$ 1.0/$ | 1.1/$ | -1.1/$ 0.1/$"},
		{"a set that leads to itself", "x", "a", "a -> a a; a -> x",
			"-1.0/$ 0.0/x,$ 1.0/x,$ | 1.1/x,$ | -1.1/$ 0.0/x,$ 0.1/x,$ 1.0/x,$ | 0.0/x,$ 0.1/x,$ 0.2/x,$ 1.0/x,$"},
		{"by the numbers of symbols, not by productions", "x y z", "a", "a -> z; a -> y; a -> x",
			"-1.0/$ 0.0/$ 1.0/$ 2.0/$ | 2.1/$ | 1.1/$ | 0.1/$ | -1.1/$"},
		{"by the numbers of symbols, terminals ahead of others", "x y", "a b c", "a -> c y; a -> b x; b -> y; c -> x",
			"-1.0/$ 0.0/$ 1.0/$ 2.0/x 3.0/y | 3.1/y | 2.1/x | -1.1/$ | 1.1/$ | 0.1/$ | 1.2/$ | 0.2/$"},
		{"set by set: what the first ones lead to stands ahead", "x y", "a", "a -> x x x; a -> y y",
			"-1.0/$ 0.0/$ 1.0/$ | 0.1/$ | 1.1/$ | -1.1/$ | 0.2/$ | 1.2/$ | 0.3/$"},
		{"one set by several", "x y z", "a b", "a -> x b; a -> y b; b -> z",
			"-1.0/$ 0.0/$ 1.0/$ | 0.1/$ 2.0/$ | 1.1/$ 2.0/$ | -1.1/$ | 2.1/$ | 0.2/$ | 1.2/$"},
		{"sets that differ by their Looks alone", "x y z", "a b", "a -> x b x; a -> y b y; b -> z",
			"-1.0/$ 0.0/$ 1.0/$ | 0.1/$ 2.0/x | 1.1/$ 2.0/y | -1.1/$ | 2.1/x | 0.2/$ | 2.1/y | 1.2/$ | 0.3/$ | 1.3/$"},
		{"a set that is smaller than another one", "x y", "a b", "a -> x b y; a -> x b; a -> y b; b -> x",
			"-1.0/$ 0.0/$ 1.0/$ 2.0/$ | 0.1/$ 1.1/$ 3.0/y,$ | 2.1/$ 3.0/$ | -1.1/$ | 3.1/y,$ | 0.2/$ 1.2/$ | 3.1/$ | 2.2/$ | 0.3/$"},
		{"what derives no row", "x", "a b c", "a -> b c; b -> x; c -> c", "-1.0/$ 0.0/$ | -1.1/$ | 0.1/$ 2.0/$ | 0.2/$ 2.1/$"},
		{"what is used by none", "x y", "a b", "a -> x; b -> y", "-1.0/$ 0.0/$ | 0.1/$ | -1.1/$"},
		{"a production there twice", "x", "a", "a -> x; a -> x", "-1.0/$ 0.0/$ 1.0/$ | 0.1/$ 1.1/$ | -1.1/$"},
		{"a pair", "c d", "s p", "s -> p p; p -> c p; p -> d",
			"-1.0/$ 0.0/$ 1.0/c,d 2.0/c,d | 1.0/c,d 1.1/c,d 2.0/c,d | 2.1/c,d | -1.1/$ | 0.1/$ 1.0/$ 2.0/$ | 1.2/c,d | 1.0/$ 1.1/$ 2.0/$ | 2.1/$ | 0.2/$ | 1.2/$"},
	} {
		holdSets(t, c.what, plain(t, c.terms, c.nons, c.prods), c.want)
	}
}

// holdMany fails where All tells another number of sets, or none where it should tell that there are too many.
func holdMany(t *testing.T, what string, f api.Flat, want int) {
	t.Helper()
	mustFit(t, f)
	err := api.OK
	if want > 600 {
		want, err = 0, api.ErrMany
	}
	if got, e := All(f); e != err || len(got) != want {
		t.Errorf("%s: %d, %v, not %d, %v", what, len(got), e, want, err)
	}
}

// P11.4: just 600 sets, and more.
func TestAllOfManySets(t *testing.T) {
	for _, many := range []int{2, 3, 66, 67, 255, 256, 257, 599, 600, 601, 602, 700, 5000} {
		holdMany(t, "rows", sample.FlatOfSets(many, false), many)
		holdMany(t, "rows that lead to one another", sample.FlatOfSets(many, true), many)
	}
}

// The whole is nothing, or lies between two terminals of one kind: of each there are three sets for what may stand behind it, the end or the second one of a kind.
func TestAllOfManyLooks(t *testing.T) {
	for kinds := 1; kinds < 40; kinds++ {
		whole := 2 * kinds
		f := sample.Symbols(whole, 1)
		f.Prods = []api.Prod{{Left: whole}}
		for i := range kinds {
			f.Prods = append(f.Prods, api.Prod{Left: whole, Right: sample.Items(i, whole, kinds+i)})
		}
		holdMany(t, "kinds", f, 2+3*kinds*(kinds+1))
	}
}

// Sets are kept apart whatever the numbers are by which alone they differ.
func TestAllKeepsNumbersApart(t *testing.T) {
	for _, far := range []int{1, 2, 127, 128, 255, 256, 257, 511, 512, 590} {
		// Two rows, in which one and the same symbol stands ahead of a terminal and of one that is so far behind it.
		f := sample.Symbols(597, 2)
		whole, one := 597, 598
		f.Prods = []api.Prod{
			{Left: whole, Right: sample.Items(594, one, 1)},
			{Left: whole, Right: sample.Items(595, one, 1+far)},
			{Left: one, Right: sample.Items(596)},
		}
		holdMany(t, "Looks", f, 10)
	}
	for _, far := range []int{1, 127, 128, 255, 256, 257, 397} {
		// As many productions, two of which end alike behind other beginnings.
		f := sample.Symbols(2, 1)
		f.Prods = append([]api.Prod{{Left: 2, Right: sample.Items(0)}}, slices.Repeat([]api.Prod{{Left: 2, Right: sample.Items(0, 0)}}, far-1)...)
		f.Prods = append(f.Prods, api.Prod{Left: 2, Right: sample.Items(1)})
		holdMany(t, "Prods", f, 4+min(far-1, 1))
	}
	// Of one production each Dot has a set of its own.
	f := sample.Symbols(1, 1)
	f.Prods = []api.Prod{{Left: 1, Right: slices.Repeat(sample.Items(0), 64)}}
	holdMany(t, "Dots", f, 66)
}
