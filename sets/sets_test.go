package sets

import (
	"slices"
	"strings"
	"testing"

	"bramble/api"
	"bramble/flat"
	"bramble/sample"
)

// plain is a fit plain grammar by its names and productions.
func plain(t *testing.T, terms, nons, prods string) api.Flat {
	t.Helper()
	f := sample.FlatOf(terms, nons, prods)
	if !flat.Fit(f) {
		t.Fatalf("%s: not fit", prods)
	}
	return f
}

// names is the names of a plain grammar's symbols; the end, behind the terminals, is none of them.
func names(f api.Flat) []string {
	return slices.Concat(f.Terms, f.Nons)
}

// those is the names of the symbols of which something is told.
func those(f api.Flat, told []bool) string {
	var l []string
	for sym, is := range told {
		if is {
			l = append(l, names(f)[sym])
		}
	}
	return strings.Join(l, " ")
}

// terminals is the names of terminals, of which $ is the end.
func terminals(f api.Flat, l []int) string {
	var told []string
	for _, n := range l {
		told = append(told, append(slices.Clone(f.Terms), "$")[n])
	}
	return strings.Join(told, " ")
}

// ofNons is the sets of the symbols of Nons, as in "a: x y; b:".
func ofNons(f api.Flat, all [][]int) string {
	var told []string
	for i, name := range f.Nons {
		told = append(told, strings.TrimSpace(name+": "+terminals(f, all[len(f.Terms)+i])))
	}
	return strings.Join(told, "; ")
}

// plainCase is a plain grammar with all that is to be told of its Nons.
type plainCase struct {
	what, terms, nons, prods     string
	empty, useful, first, follow string
}

// plainCases is small plain grammars, of all that chapter 10 speaks of.
func plainCases() []plainCase {
	return slices.Concat(emptyCases(), roundCases(), firstCases(), followCases())
}

func emptyCases() []plainCase {
	return []plainCase{
		{"the chapter's", "x y", "a b", "a -> b x; b ->; b -> y",
			"b", "a b", "a: x y; b: y", "a: $; b: x"},
		{"no terminals, no productions", "", "a", "",
			"", "", "a:", "a: $"},
		{"no terminals, nothing", "", "a", "a ->",
			"a", "a", "a:", "a: $"},
		{"no terminals, nothing by others", "", "a b c", "a -> b c; b ->; c -> b b",
			"a b c", "a b c", "a:; b:; c:", "a: $; b: $; c: $"},
		{"no terminals, one without end", "", "a b", "a -> a b; b ->",
			"b", "b", "a:; b:", "a: $; b: $"},
		{"no productions", "x y", "a b", "",
			"", "", "a:; b:", "a: $; b:"},
		{"one of Nons without productions", "x y", "a b c", "a -> b x; c -> y",
			"", "c", "a:; b:; c: y", "a: $; b: x; c:"},
		{"the first of Nons without productions", "x", "a b", "b -> a x",
			"", "", "a:; b:", "a: x $; b:"},
		{"nothing, down four symbols", "x", "a b c d", "a -> b; b -> c; c -> d; d ->",
			"a b c d", "a b c d", "a:; b:; c:; d:", "a: $; b: $; c: $; d: $"},
		{"nothing, up four symbols", "x", "a b c d", "a ->; b -> a; c -> b; d -> c",
			"a b c d", "a b c d", "a:; b:; c:; d:", "a: $; b:; c:; d:"},
		{"nothing, to and fro", "x", "a b c d", "a -> c c; b -> a d; c -> d; d ->",
			"a b c d", "a b c d", "a:; b:; c:; d:", "a: $; b:; c: $; d: $"},
		{"nothing, told ahead of something", "x", "a b", "a ->; a -> x a; b -> x; b -> a",
			"a b", "a b", "a: x; b: x", "a: $; b:"},
		{"nothing, told behind something", "x", "a b", "a -> x a; a ->; b -> a; b -> x",
			"a b", "a b", "a: x; b: x", "a: $; b:"},
		{"nothing but for a terminal", "x", "a b", "a -> b x b; a -> b b x; b ->",
			"b", "a b", "a: x; b:", "a: $; b: x $"},
		{"nothing but for the first item", "x", "a b c", "a -> c b b; b ->; c -> x",
			"b", "a b c", "a: x; b:; c: x", "a: $; b: $; c: $"},
		{"nothing, twice", "x", "a", "a ->; a ->",
			"a", "a", "a:", "a: $"},
	}
}

func roundCases() []plainCase {
	return []plainCase{
		{"itself alone", "x", "a", "a -> a",
			"", "", "a:", "a: $"},
		{"itself alone, or a terminal", "x", "a", "a -> a; a -> x",
			"", "a", "a: x", "a: $"},
		{"itself alone, or nothing", "x", "a", "a -> a; a ->",
			"a", "a", "a:", "a: $"},
		{"itself twice", "x", "a", "a -> a a; a -> x",
			"", "a", "a: x", "a: x $"},
		{"itself twice, or nothing", "x", "a", "a -> a a; a ->; a -> x",
			"a", "a", "a: x", "a: x $"},
		{"itself in front", "x y", "a b", "a -> a b; a -> x; b -> y",
			"", "a b", "a: x; b: y", "a: y $; b: y $"},
		{"itself in front, or nothing", "x", "a", "a -> a x; a ->",
			"a", "a", "a: x", "a: x $"},
		{"itself behind", "x y", "a", "a -> x a; a -> y",
			"", "a", "a: x y", "a: $"},
		{"itself behind, or nothing", "x", "a", "a ->; a -> x a",
			"a", "a", "a: x", "a: $"},
		{"itself between", "x y", "a", "a -> x a y; a ->",
			"a", "a", "a: x", "a: y $"},
		{"a circle with no way out", "x", "a b c", "a -> b; b -> c; c -> a",
			"", "", "a:; b:; c:", "a: $; b: $; c: $"},
		{"a circle with a way out", "x", "a b c", "a -> b; b -> c; c -> a; c -> x",
			"", "a b c", "a: x; b: x; c: x", "a: $; b: $; c: $"},
		{"a circle the other way round", "x", "a b c", "a -> c; a -> x; b -> a; c -> b",
			"", "a b c", "a: x; b: x; c: x", "a: $; b: $; c: $"},
		{"a circle with a way to nothing", "x", "a b c", "a -> b; b -> c; c -> a; c ->",
			"a b c", "a b c", "a:; b:; c:", "a: $; b: $; c: $"},
		{"a circle of pairs", "x y z", "a b c", "a -> b x; b -> c y; c -> a z; c -> z",
			"", "a b c", "a: z; b: z; c: z", "a: z $; b: x; c: y"},
		{"a circle of pairs, the others in front", "x y", "a b", "a -> x b; b -> y a; b ->",
			"b", "a b", "a: x; b: y", "a: $; b: $"},
		{"a circle beside the whole", "x y", "a b c", "a -> x; b -> c y; c -> b; c -> x",
			"", "a b c", "a: x; b: x; c: x", "a: $; b: y; c: y"},
		{"a circle in the way of a row", "x y", "a b c", "a -> x b y; b -> c; c -> b",
			"", "", "a: x; b:; c:", "a: $; b: y; c: y"},
		{"all but one item derive", "x y", "a b c", "a -> x b c y; b -> x; c -> c x",
			"", "b", "a: x; b: x; c:", "a: $; b:; c: x y"},
		{"all but the first item derive", "x y", "a b c", "a -> c b x; b -> y; c -> c",
			"", "b", "a:; b: y; c:", "a: $; b: x; c: y"},
		{"all but the last item derive", "x y", "a b c", "a -> x b c; b -> y; c -> x c",
			"", "b", "a: x; b: y; c: x", "a: $; b: x; c: $"},
		{"one production derives, one does not", "x y", "a b", "a -> y b; a -> x; b -> b x",
			"", "a", "a: x y; b:", "a: $; b: x $"},
	}
}

func firstCases() []plainCase {
	return []plainCase{
		{"a terminal in front", "x y", "a b", "a -> x b; b -> y",
			"", "a b", "a: x; b: y", "a: $; b: $"},
		{"the same terminal twice", "x", "a", "a -> x; a -> x x",
			"", "a", "a: x", "a: $"},
		{"terminals that do not rise", "x y z", "a", "a -> z; a -> x; a -> y",
			"", "a", "a: x y z", "a: $"},
		{"through one item", "x y z", "a b", "a -> b z x; b ->; b -> y",
			"b", "a b", "a: y z; b: y", "a: $; b: z"},
		{"through several items", "x y z w", "a b c d", "a -> b c d w; b ->; b -> z; c ->; c -> y; d ->; d -> x",
			"b c d", "a b c d", "a: x y z w; b: z; c: y; d: x", "a: $; b: x y w; c: x w; d: w"},
		{"through all items", "x y", "a b c", "a -> b c; b ->; b -> x; c ->; c -> y",
			"a b c", "a b c", "a: x y; b: x; c: y", "a: $; b: y $; c: $"},
		{"through items that are nothing only", "x y", "a b", "a -> b b b x y; b ->",
			"b", "a b", "a: x; b:", "a: $; b: x"},
		{"not beyond the first that is not empty", "x y z", "a b c", "a -> b c x; b -> y; c -> z; c ->",
			"c", "a b c", "a: y; b: y; c: z", "a: $; b: x z; c: x"},
		{"through one, and not beyond the next", "x y z", "a b c d", "a -> b c d; b ->; b -> x; c -> y; d -> z",
			"b", "a b c d", "a: x y; b: x; c: y; d: z", "a: $; b: y; c: z; d: $"},
		{"not beyond a terminal", "x y", "a b", "a -> x b y; b ->",
			"b", "a b", "a: x; b:", "a: $; b: y"},
		{"through what is empty by others only", "x y", "a b c d", "a -> b x; b -> c d; c -> d; d ->; d -> y",
			"b c d", "a b c d", "a: x y; b: y; c: y; d: y", "a: $; b: x; c: x y; d: x y"},
		{"down four symbols", "x y", "a b c d", "a -> b y; b -> c y; c -> d y; d -> x",
			"", "a b c d", "a: x; b: x; c: x; d: x", "a: $; b: y; c: y; d: y"},
		{"up four symbols", "x y", "a b c d", "a -> x; b -> a y; c -> b y; d -> c y",
			"", "a b c d", "a: x; b: x; c: x; d: x", "a: y $; b: y; c: y; d:"},
		{"not Useful, a terminal in front", "x", "a", "a -> x a",
			"", "", "a: x", "a: $"},
		{"not Useful, by an item behind", "x y", "a b c", "a -> b c; b -> x; c -> c y",
			"", "b", "a: x; b: x; c:", "a: $; b:; c: y $"},
		{"not Useful, through what can be empty", "x y", "a b c", "a -> b x c; b ->; b -> y; c -> c",
			"b", "b", "a: x y; b: y; c:", "a: $; b: x; c: $"},
		{"not Useful, and nothing in front", "x", "a b", "a -> b x; b -> b b",
			"", "", "a:; b:", "a: $; b: x"},
		{"of what none uses", "x y", "a b", "a -> x; b -> y a",
			"", "a b", "a: x; b: y", "a: $; b:"},
	}
}

func followCases() []plainCase {
	return []plainCase{
		{"the first, used", "x y", "a b", "a -> x; b -> a y",
			"", "a b", "a: x; b: x", "a: y $; b:"},
		{"the first, used by itself", "x y", "a", "a -> y a x; a -> y",
			"", "a", "a: y", "a: x $"},
		{"the last item", "x y", "a b", "a -> x b; b -> y",
			"", "a b", "a: x; b: y", "a: $; b: $"},
		{"the last item of what is followed", "x y z", "a b c", "a -> b z; b -> x c; c -> y",
			"", "a b c", "a: x; b: x; c: y", "a: $; b: z; c: z"},
		{"the last item of what is followed later on", "x y z", "a b c", "a -> c z; b -> y; c -> x b",
			"", "a b c", "a: x; b: y; c: x", "a: $; b: z; c: z"},
		{"the last item, down four symbols", "x", "a b c d", "a -> x b; b -> x c; c -> x d; d -> x",
			"", "a b c d", "a: x; b: x; c: x; d: x", "a: $; b: $; c: $; d: $"},
		{"the last item, up four symbols", "x y", "a b c d e", "a -> x e y; b -> x; c -> x b; d -> x c; e -> x d",
			"", "a b c d e", "a: x; b: x; c: x; d: x; e: x", "a: $; b: y; c: y; d: y; e: y"},
		{"all behind can be empty", "x y z", "a b c d", "a -> b c d; b -> z; c ->; c -> x; d ->; d -> y",
			"c d", "a b c d", "a: z; b: z; c: x; d: y", "a: $; b: x y $; c: y $; d: $"},
		{"behind stand two, of which one is not empty", "x y z", "a b c d", "a -> b c d; b -> z; c ->; c -> x; d -> y",
			"c", "a b c d", "a: z; b: z; c: x; d: y", "a: $; b: x y; c: y; d: $"},
		{"behind stand two, of which the first is not empty", "x y z", "a b c d", "a -> b c d; b -> z; c -> x; d -> y; d ->",
			"d", "a b c d", "a: z; b: z; c: x; d: y", "a: $; b: x; c: y $; d: $"},
		{"twice in one production", "x y z", "a b", "a -> b x b y; b -> z",
			"", "a b", "a: z; b: z", "a: $; b: x y"},
		{"twice, one behind the other", "x y z", "a b", "a -> b b; b -> z",
			"", "a b", "a: z; b: z", "a: $; b: z $"},
		{"twice, what can be empty", "x y", "a b", "a -> b b y b; b -> x; b ->",
			"b", "a b", "a: x y; b: x", "a: $; b: x y $"},
		{"used nowhere", "x y", "a b", "a -> x; b -> y",
			"", "a b", "a: x; b: y", "a: $; b:"},
		{"used by what is used nowhere", "x y", "a b c d", "a -> x; b -> c; c -> d; d -> y",
			"", "a b c d", "a: x; b: y; c: y; d: y", "a: $; b:; c:; d:"},
		{"used by what is used nowhere, ahead of a terminal", "x y", "a b c", "a -> x; b -> c y; b -> x c; c -> y",
			"", "a b c", "a: x; b: x y; c: y", "a: $; b:; c: y"},
		{"used by itself alone", "x y", "a b", "a -> x; b -> b y; b -> y",
			"", "a b", "a: x; b: y", "a: $; b: y"},
		{"used by what derives no row", "x y", "a b c", "a -> x; b -> c y b; c -> x",
			"", "a c", "a: x; b: x; c: x", "a: $; b:; c: y"},
		{"ahead of what begins with nothing", "x", "a b c", "a -> b c x; b -> x; c -> c",
			"", "b", "a: x; b: x; c:", "a: $; b:; c: x"},
		{"ahead of itself, which can be empty", "x y", "a b", "a -> b a y; a ->; b -> x",
			"a", "a b", "a: x; b: x", "a: y $; b: x y"},
		{"ahead of what Left is followed by, in two rounds", "x y z", "a b c", "a -> b y; a -> c z; b -> c; c -> b; c -> x",
			"", "a b c", "a: x; b: x; c: x", "a: $; b: y z; c: y z"},
		{"sums", "+ * ( ) n", "s p f", "s -> s + p; s -> p; p -> p * f; p -> f; f -> ( s ); f -> n",
			"", "s p f", "s: ( n; p: ( n; f: ( n", "s: + ) $; p: + * ) $; f: + * ) $"},
		{"sums without left ones", "+ * ( ) n", "s t p q f", "s -> p t; t -> + p t; t ->; p -> f q; q -> * f q; q ->; f -> ( s ); f -> n",
			"t q", "s t p q f", "s: ( n; t: +; p: ( n; q: *; f: ( n", "s: ) $; t: ) $; p: + ) $; q: + ) $; f: + * ) $"},
	}
}

// P10.1: which symbols derive the empty row; no terminal does.
func TestEmpty(t *testing.T) {
	for _, c := range plainCases() {
		f := plain(t, c.terms, c.nons, c.prods)
		told := Empty(f)
		if len(told) != len(names(f)) {
			t.Fatalf("%s: %d told of %d symbols", c.what, len(told), len(names(f)))
		}
		if got := those(f, told); got != c.empty {
			t.Errorf("%s: %s can be empty, not %s", c.what, got, c.empty)
		}
	}
}

// P10.1: which symbols derive a row; each terminal does.
func TestUseful(t *testing.T) {
	for _, c := range plainCases() {
		f := plain(t, c.terms, c.nons, c.prods)
		told := Useful(f)
		if len(told) != len(names(f)) {
			t.Fatalf("%s: %d told of %d symbols", c.what, len(told), len(names(f)))
		}
		if got, want := those(f, told), strings.TrimSpace(c.terms+" "+c.useful); got != want {
			t.Errorf("%s: %s derive rows, not %s", c.what, got, want)
		}
	}
}

// P10.2: a terminal is in its own set alone.
func TestFirst(t *testing.T) {
	for _, c := range plainCases() {
		f := plain(t, c.terms, c.nons, c.prods)
		told := First(f)
		if len(told) != len(names(f)) {
			t.Fatalf("%s: %d told of %d symbols", c.what, len(told), len(names(f)))
		}
		for term := range f.Terms {
			if !slices.Equal(told[term], []int{term}) {
				t.Errorf("%s: %s begins with %v", c.what, f.Terms[term], told[term])
			}
		}
		if got := ofNons(f, told); got != c.first {
			t.Errorf("%s: First is %s, not %s", c.what, got, c.first)
		}
	}
}

// P10.3: a terminal has no set.
func TestFollow(t *testing.T) {
	for _, c := range plainCases() {
		f := plain(t, c.terms, c.nons, c.prods)
		told := Follow(f)
		if len(told) != len(names(f)) {
			t.Fatalf("%s: %d told of %d symbols", c.what, len(told), len(names(f)))
		}
		for term := range f.Terms {
			if len(told[term]) != 0 {
				t.Errorf("%s: behind the terminal %s stands %v", c.what, f.Terms[term], told[term])
			}
		}
		if got := ofNons(f, told); got != c.follow {
			t.Errorf("%s: Follow is %s, not %s", c.what, got, c.follow)
		}
	}
}

// Fields, Aliases, Precs and names that stand twice change nothing.
func TestOnlySymbolsCount(t *testing.T) {
	for _, c := range plainCases() {
		f := plain(t, c.terms, c.nons, c.prods)
		g := sample.DressedFlat(f)
		if !flat.Fit(g) {
			t.Fatalf("%s: not fit", c.what)
		}
		if wholeOf(f) != wholeOf(g) {
			t.Errorf("%s: %s, not %s", c.what, wholeOf(g), wholeOf(f))
		}
	}
}
