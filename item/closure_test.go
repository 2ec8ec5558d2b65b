package item

import (
	"slices"
	"testing"

	"bramble/api"
	"bramble/flat"
	"bramble/sample"
)

// mustFit fails where a plain grammar is not fit.
func mustFit(t *testing.T, f api.Flat) {
	t.Helper()
	if !flat.Fit(f) {
		t.Fatalf("%v is not fit", f)
	}
}

// plain is a fit plain grammar by its names and productions.
func plain(t *testing.T, terms, nons, prods string) api.Flat {
	t.Helper()
	f := sample.FlatOf(terms, nons, prods)
	mustFit(t, f)
	return f
}

// holdLrs fails where items are others than a text tells.
func holdLrs(t *testing.T, what string, f api.Flat, got []api.Lr, want string) {
	t.Helper()
	if !slices.Equal(got, sample.Lrs(f, want)) {
		t.Errorf("%s: %v, not %v", what, got, sample.Lrs(f, want))
	}
}

// closureCase is a plain grammar with items, and what their Closure is.
type closureCase struct {
	what, terms, nons, prods string
	l, want                  string
}

// nextCases is of what the Next can be.
func nextCases() []closureCase {
	return []closureCase{
		{"the chapter's", "x y", "a", "a -> x a; a -> y", "-1.0/$", "-1.0/$ 0.0/$ 1.0/$"},
		{"of no items", "x y", "a", "a -> x a; a -> y", "", ""},
		{"a terminal", "x y", "a", "a -> x a; a -> y", "0.0/$", "0.0/$"},
		{"a terminal, of several", "x y", "a", "a -> x a; a -> y", "1.0/x,y 0.0/y", "0.0/y 1.0/x,y"},
		{"none, behind all", "x y", "a", "a -> x a; a -> y", "0.2/x 1.1/$ -1.1/$", "-1.1/$ 0.2/x 1.1/$"},
		{"the whole's symbol, not of the whole's item", "x y", "a", "a -> x a; a -> y", "0.1/x", "0.0/x 0.1/x 1.0/x"},
		{"the whole's, with another Look", "x y", "a", "a -> x a; a -> y", "-1.0/y", "-1.0/y 0.0/y 1.0/y"},
		{"the whole's, with each Look", "x y", "a", "a -> x a; a -> y", "-1.0/x,y,$", "-1.0/x,y,$ 0.0/x,y,$ 1.0/x,y,$"},
		{"the whole's, behind all", "x y", "a", "a -> x a; a -> y", "-1.1/$,x", "-1.1/x,$"},
		{"a symbol without productions", "x", "a b", "a -> b x", "0.0/$", "0.0/$"},
		{"the whole's symbol, without productions", "x", "a b", "b -> a x", "-1.0/$ 0.0/x", "-1.0/$ 0.0/x"},
		{"no productions at all", "x", "a b", "", "-1.0/$ -1.1/x", "-1.0/$ -1.1/x"},
		{"a symbol with a production of nothing", "x y", "a b", "a -> b x; b ->; b -> y", "-1.0/$", "-1.0/$ 0.0/$ 1.0/x 2.0/x"},
		{"a symbol with nothing but that", "x y", "a b", "a -> y b x; b ->", "0.1/$", "0.1/$ 1.0/x"},
		{"the last of Nons", "x", "a b c", "a -> x; b -> c; c -> b; c ->", "1.0/x", "1.0/x 2.0/x 3.0/x"},
		{"no terminals: the end is 0", "", "a b", "a -> b a; a ->; b ->", "-1.0/0", "-1.0/$ 0.0/$ 1.0/$ 2.0/$"},
		{"first itself", "x y", "a", "a -> a x; a -> y", "-1.0/$", "-1.0/$ 0.0/x,$ 1.0/x,$"},
		{"last itself", "x y", "a", "a -> y; a -> x a", "1.1/$", "0.0/$ 1.0/$ 1.1/$"},
		{"first and last itself", "x y", "a", "a -> a y a; a -> x", "-1.0/$", "-1.0/$ 0.0/y,$ 1.0/y,$"},
		{"first and last itself, the last one", "x y", "a", "a -> a y a; a -> x", "0.2/$", "0.0/y,$ 0.2/$ 1.0/y,$"},
		{"itself twice", "x", "a", "a -> a a; a -> x", "-1.0/$", "-1.0/$ 0.0/x,$ 1.0/x,$"},
		{"itself alone", "x", "a", "a -> a; a -> x", "-1.0/$", "-1.0/$ 0.0/$ 1.0/$"},
		{"itself alone, and nothing else", "x", "a", "a -> a", "-1.0/x", "-1.0/x 0.0/x"},
		{"itself by others", "x y z", "a b c", "a -> b x; b -> c y; c -> a z; c -> z", "-1.0/$", "-1.0/$ 0.0/z,$ 1.0/x 2.0/y 3.0/y"},
		{"a production there twice", "x", "a", "a -> x; a -> x", "-1.0/$", "-1.0/$ 0.0/$ 1.0/$"},
		{"sums", "+ * ( ) n", "s p f", "s -> s + p; s -> p; p -> p * f; p -> f; f -> ( s ); f -> n", "4.1/+",
			"0.0/+,) 1.0/+,) 2.0/+,*,) 3.0/+,*,) 4.0/+,*,) 4.1/+ 5.0/+,*,)"},
	}
}

// behindCases is of what can stand behind the Next.
func behindCases() []closureCase {
	return []closureCase{
		{"nothing at all", "x y", "a b", "a -> x b; b -> y", "0.1/x", "0.1/x 1.0/x"},
		{"nothing at all, several Looks", "x y", "a b", "a -> x b; b -> y", "0.1/$,x", "0.1/x,$ 1.0/x,$"},
		{"a terminal", "x y", "a b", "a -> b y x; b -> y", "0.0/x,$", "0.0/x,$ 1.0/y"},
		{"one that can be empty", "x y z", "a b c", "a -> b c; b -> x; c ->; c -> y", "-1.0/$", "-1.0/$ 0.0/$ 1.0/y,$"},
		{"one that can be empty, the last one itself", "x y z", "a b c", "a -> b c; b -> x; c ->; c -> y", "0.1/z", "0.1/z 2.0/z 3.0/z"},
		{"one that can be empty, and begins with the Look", "x y z", "a b c", "a -> b c; b -> x; c ->; c -> y", "0.0/y", "0.0/y 1.0/y"},
		{"one that is nothing only", "x y", "a b c", "a -> b c; b -> x; c ->", "0.0/y,$", "0.0/y,$ 1.0/y,$"},
		{"one that can't be empty", "x y z", "a b c", "a -> b c; b -> x; c -> y; c -> z", "0.0/x,$", "0.0/x,$ 1.0/y,z"},
		{"one that can't be empty, and what stands further on", "x y z", "a b c", "a -> b c z; b -> x; c -> y", "0.0/$", "0.0/$ 1.0/y"},
		{"several that can be empty", "x y z w", "a b c d", "a -> b c d; b -> x; c ->; c -> y; d ->; d -> z", "0.0/w", "0.0/w 1.0/y,z,w"},
		{"several that can be empty, ahead of a terminal", "x y z w", "a b c d", "a -> b c d w; b -> x; c ->; c -> y; d ->; d -> z", "0.0/$", "0.0/$ 1.0/y,z,w"},
		{"several that can be empty, ahead of one that can't", "x y z w", "a b c d e", "a -> b c d e d; b -> x; c ->; d ->; d -> z; e -> y", "0.0/w", "0.0/w 1.0/y,z"},
		{"one that can't be empty, ahead of one that can", "x y z w", "a b c d", "a -> b d c; b -> x; c ->; c -> y; d -> z", "0.0/w", "0.0/w 1.0/z"},
		{"one that can be empty, in the middle", "x y z w", "a b c d", "a -> w b c d; b -> x; c ->; c -> y; d ->; d -> z", "0.2/w", "0.2/w 2.0/z,w 3.0/z,w"},
		{"one that begins with nothing", "x", "a b c", "a -> b c; b -> x; c -> c", "-1.0/$", "-1.0/$ 0.0/$"},
		{"one that begins with nothing, behind one that can be empty", "x y", "a b c d", "a -> b d c; b -> x; c -> c; d ->; d -> y", "-1.0/$", "-1.0/$ 0.0/$ 1.0/y"},
		{"one that derives no row", "x w", "a b c", "a -> b c; b -> x; c -> w c", "-1.0/$", "-1.0/$ 0.0/$ 1.0/w"},
		{"one without productions", "x", "a b c", "a -> b c; b -> x", "-1.0/$", "-1.0/$ 0.0/$"},
		{"several, by several productions", "x y", "a b", "a -> b x; a -> b y; b -> x", "-1.0/$", "-1.0/$ 0.0/$ 1.0/$ 2.0/x,y"},
		{"several, in rounds", "x y", "a b c", "a -> b x; b -> c; c -> b y; c -> x", "-1.0/$", "-1.0/$ 0.0/$ 1.0/x,y 2.0/x,y 3.0/x,y"},
		{"Looks that come down late", "x y z", "a b c d", "a -> b; a -> d x; b -> c; c -> d; d -> c z; d -> y", "0.0/$", "0.0/$ 2.0/$ 3.0/z,$ 4.0/z,$ 5.0/z,$"},
		{"of items that differ by Look alone", "x y z w", "a b c", "a -> w b c; b -> x; c ->; c -> z", "0.1/y,x", "0.1/x,y 1.0/x,y,z"},
		{"of items that differ by Look alone, what can't be empty", "x y z w", "a b c", "a -> w b c; b -> x; c -> z", "0.1/y,x", "0.1/x,y 1.0/z"},
		{"of items that differ by Dot alone", "x y z", "a b", "a -> b x b y b; b -> z", "0.0/$ 0.2/$ 0.4/$", "0.0/$ 0.2/$ 0.4/$ 1.0/x,y,$"},
		{"of items that differ by Prod alone", "x y z", "a b", "a -> z b x; a -> z b y; b -> z", "0.1/$ 1.1/$", "0.1/$ 1.1/$ 2.0/x,y"},
		{"an item that begins itself, with others ahead", "x y", "a b", "a -> a b x; a -> y; b ->; b -> y", "-1.0/$", "-1.0/$ 0.0/x,y,$ 1.0/x,y,$"},
	}
}

// listCases is of which items there can be.
func listCases() []closureCase {
	return []closureCase{
		{"in no order", "x y z", "a b", "a -> x y; a -> y b x; b -> z; b ->", "3.0/$ 1.2/$ 1.2/x 1.0/x -1.1/$ 0.2/y 0.2/x 0.1/$ 2.1/x", "-1.1/$ 0.1/$ 0.2/x,y 1.0/x 1.2/x,$ 2.1/x 3.0/$"},
		{"by Prod ahead of Dot ahead of Look", "x y", "a", "a -> x y; a -> y x", "1.0/x 0.2/x 0.1/$ 0.1/y 0.0/$", "0.0/$ 0.1/y,$ 0.2/x 1.0/x"},
		{"one there twice", "x y", "a", "a -> x a; a -> y", "0.1/$ 0.1/$ 1.1/x 0.1/$ 1.1/x", "0.0/$ 0.1/$ 1.0/$ 1.1/x"},
		{"one that would come anyway", "x y z", "a b", "a -> b x; b -> y; b -> z", "0.0/$ 1.0/x", "0.0/$ 1.0/x 2.0/x"},
		{"one that would come anyway, first", "x y z", "a b", "a -> b x; b -> y; b -> z", "2.0/x 0.0/$", "0.0/$ 1.0/x 2.0/x"},
		{"one that would come with another Look", "x y z", "a b", "a -> b x; b -> y; b -> z", "1.0/y 0.0/$ 2.0/$", "0.0/$ 1.0/x,y 2.0/x,$"},
		{"one that comes of none, with Dot 0", "x y z", "a b", "a -> b x; b -> y; b -> z", "1.0/x", "1.0/x"},
		{"none that are fit", "x y", "a", "a -> x a; a -> y", "-2.0/$ -1.2/$ -1.-1/$ -1.0/3 -1.0/-1 0.3/$ 0.-1/x 2.0/$ 1.2/x 0.0/3 1.1/-1 400.0/0 0.64/0", ""},
		{"a Prod below the whole's", "x y", "a", "a -> x a; a -> y", "-2.0/$ 0.1/$ -3.1/x", "0.0/$ 0.1/$ 1.0/$"},
		{"a Prod behind the last", "x y", "a", "a -> x a; a -> y", "2.0/$ 0.1/$ 3.0/x", "0.0/$ 0.1/$ 1.0/$"},
		{"a Dot below 0", "x y", "a", "a -> x a; a -> y", "0.1/$ 0.-1/x -1.-1/x 1.-1/x", "0.0/$ 0.1/$ 1.0/$"},
		{"a Dot beyond", "x y", "a", "a -> x a; a -> y", "-1.2/x 0.3/x 1.2/x 0.1/$", "0.0/$ 0.1/$ 1.0/$"},
		{"a Look below 0", "x y", "a", "a -> x a; a -> y", "-1.0/-1 0.1/-1 0.1/$", "0.0/$ 0.1/$ 1.0/$"},
		{"a Look behind the end", "x y", "a", "a -> x a; a -> y", "-1.0/3 0.1/4 0.1/$ 0.1/3", "0.0/$ 0.1/$ 1.0/$"},
		{"without terminals, a Look that is not the end", "", "a", "a -> a a; a ->", "-1.0/1 0.1/0 0.0/-1", "0.0/0 0.1/0 1.0/0"},
		{"without productions, one that is none", "x", "a", "", "0.0/$ -1.0/x 0.0/x", "-1.0/x"},
	}
}

// closureCases is all of them.
func closureCases() []closureCase {
	return slices.Concat(nextCases(), behindCases(), listCases())
}

// P11.2.
func TestClosure(t *testing.T) {
	for _, c := range closureCases() {
		f := plain(t, c.terms, c.nons, c.prods)
		holdLrs(t, c.what, f, Closure(f, sample.Lrs(f, c.l)), c.want)
	}
}

// What is told hangs neither on the order of items nor on how often they stand there.
func TestClosureOfAnyOrder(t *testing.T) {
	for _, c := range closureCases() {
		f := plain(t, c.terms, c.nons, c.prods)
		l := sample.Lrs(f, c.l)
		slices.Reverse(l)
		holdLrs(t, c.what+", from behind", f, Closure(f, l), c.want)
		holdLrs(t, c.what+", thrice", f, Closure(f, slices.Repeat(l, 3)), c.want)
		for range l {
			l = append(l[1:], l[0])
			holdLrs(t, c.what+", turned", f, Closure(f, l), c.want)
		}
	}
}

// Fields, Aliases, Precs and names that stand twice change nothing.
func TestOnlySymbolsCount(t *testing.T) {
	for _, c := range closureCases() {
		f := plain(t, c.terms, c.nons, c.prods)
		g := sample.DressedFlat(f)
		mustFit(t, g)
		holdLrs(t, c.what, f, Closure(g, sample.Lrs(f, c.l)), c.want)
	}
}

// P11.3: the Closure of the whole's item.
func TestFirst(t *testing.T) {
	for _, c := range []struct{ what, terms, nons, prods, want string }{
		{"the chapter's", "x y", "a", "a -> x a; a -> y", "-1.0/$ 0.0/$ 1.0/$"},
		{"no productions", "x y", "a b", "", "-1.0/$"},
		{"none of the first of Nons", "x y", "a b", "b -> x; b -> a", "-1.0/$"},
		{"no terminals", "", "a", "a ->", "-1.0/0 0.0/0"},
		{"no terminals, no productions", "", "a", "", "-1.0/0"},
		{"itself first", "x y", "a", "a -> a x; a -> y", "-1.0/$ 0.0/x,$ 1.0/x,$"},
		{"itself first, or nothing", "x", "a", "a ->; a -> a x", "-1.0/$ 0.0/x,$ 1.0/x,$"},
		{"itself last", "x y", "a", "a -> y; a -> x a", "-1.0/$ 0.0/$ 1.0/$"},
		{"itself alone", "x y", "a", "a -> a", "-1.0/$ 0.0/$"},
		{"itself first, by others", "x y", "a b", "a -> b x; b -> a y; b ->", "-1.0/$ 0.0/y,$ 1.0/x 2.0/x"},
		{"itself behind what can be empty", "x y", "a b", "a -> b a x; a ->; b ->; b -> y", "-1.0/$ 0.0/$ 1.0/$ 2.0/x,y 3.0/x,y"},
		{"used by none", "x y", "a b", "a -> x; b -> y", "-1.0/$ 0.0/$"},
		{"a pair", "c d", "s p", "s -> p p; p -> c p; p -> d", "-1.0/$ 0.0/$ 1.0/c,d 2.0/c,d"},
		{"a pair that can be empty", "c", "s p", "s -> p p; p -> c; p ->", "-1.0/$ 0.0/$ 1.0/c,$ 2.0/c,$"},
		{"sums", "+ * ( ) n", "s p f", "s -> s + p; s -> p; p -> p * f; p -> f; f -> ( s ); f -> n",
			"-1.0/$ 0.0/+,$ 1.0/+,$ 2.0/+,*,$ 3.0/+,*,$ 4.0/+,*,$ 5.0/+,*,$"},
	} {
		f := plain(t, c.terms, c.nons, c.prods)
		holdLrs(t, c.what, f, First(f), c.want)
	}
}

// gotoCase is a plain grammar with items, and of symbols that Goto of them is something.
type gotoCase struct {
	what, terms, nons, prods, l string
	want                        map[int]string
}

func gotoCases() []gotoCase {
	return []gotoCase{
		{"the chapter's", "x y", "a", "a -> x a; a -> y", "-1.0/$ 0.0/$ 1.0/$",
			map[int]string{0: "0.0/$ 0.1/$ 1.0/$", 1: "1.1/$", 2: "-1.1/$"}},
		{"of no items", "x y", "a", "a -> x a; a -> y", "", nil},
		{"of items behind all", "x y", "a", "a -> x a; a -> y; a ->", "-1.1/$ 0.2/x 1.1/y 2.0/$", nil},
		{"by the whole's symbol, not of the whole's item", "x y", "a", "a -> x a; a -> y", "0.1/y 0.1/x", map[int]string{2: "0.2/x,y"}},
		{"by the whole's symbol, of both", "x y", "a", "a -> a x; a -> y", "-1.0/$ 0.0/$,x 1.0/x,$", map[int]string{1: "1.1/x,$", 2: "-1.1/$ 0.1/x,$"}},
		{"by a terminal, of several", "x y", "a b", "a -> x b; a -> x a; a -> y; b -> x", "0.0/$ 1.0/$ 1.0/y 3.0/x",
			map[int]string{0: "0.0/y,$ 0.1/$ 1.0/y,$ 1.1/y,$ 2.0/y,$ 3.0/$ 3.1/x"}},
		{"of a list that is not closed", "x y", "a b", "a -> b b x; b -> y", "-1.0/$ 0.0/$", map[int]string{2: "-1.1/$", 3: "0.1/$ 1.0/x"}},
		{"of a list in no order, some twice", "x y", "a", "a -> x x; a -> x y", "1.0/y 0.0/$ 0.1/x 1.0/y 0.0/x", map[int]string{0: "0.1/x,$ 0.2/x 1.1/y"}},
		{"by a symbol again and again", "x", "a", "a -> x x x", "0.0/$ 0.1/$ 0.2/$", map[int]string{0: "0.1/$ 0.2/$ 0.3/$"}},
		{"to what can be empty", "x y z", "a b c", "a -> x b c; b ->; b -> y; c ->; c -> z", "0.0/$", map[int]string{0: "0.1/$ 1.0/z,$ 2.0/z,$"}},
		{"of the whole's, with other Looks", "x y", "a", "a -> y", "-1.0/x,$ -1.1/y", map[int]string{2: "-1.1/x,$"}},
		{"of items that are not fit", "x y", "a", "a -> x a; a -> y", "-2.0/$ -1.-1/$ -1.2/$ 0.-1/$ 0.3/$ 2.0/$ 0.0/-1 0.0/3 -1.0/3 1.0/-1", nil},
		{"of items that are not fit, among others", "x y", "a", "a -> x a; a -> y", "-2.0/$ 1.0/x 0.-1/$ 0.0/3 1.0/3 1.0/$ 0.3/$", map[int]string{1: "1.1/x,$"}},
		{"without terminals", "", "a b", "a -> b a; a ->; b ->", "-1.0/0 0.0/0 1.0/0 2.0/0", map[int]string{0: "-1.1/0", 1: "0.0/0 0.1/0 1.0/0 2.0/0"}},
		{"without productions", "x", "a b", "", "-1.0/$ -1.0/x", map[int]string{1: "-1.1/x,$"}},
		{"by the last symbol", "x", "a b", "a -> b x b; b -> x", "0.0/$ 0.2/$", map[int]string{2: "0.1/$ 0.3/$"}},
	}
}

// P11.2: where something comes of a symbol, and nothing of all others, whatever their numbers.
func TestGoto(t *testing.T) {
	for _, c := range gotoCases() {
		f := plain(t, c.terms, c.nons, c.prods)
		l := sample.Lrs(f, c.l)
		for sym := -4; sym < 9; sym++ {
			holdLrs(t, c.what, f, Goto(f, l, sym), c.want[sym])
		}
		for _, sym := range farOff() {
			holdLrs(t, c.what, f, Goto(f, l, sym), "")
		}
	}
}

// What is told of nothing is none, not a list.
func TestNothingIsNone(t *testing.T) {
	f := plain(t, "x", "a", "a -> x")
	for _, l := range [][]api.Lr{nil, {}, {{Prod: 7}}, {{Dot: 1}}} {
		if got := Goto(f, l, 0); got != nil {
			t.Errorf("%v: Goto is %v", l, got)
		}
	}
	for _, l := range [][]api.Lr{nil, {}, {{Prod: 7}}} {
		if got := Closure(f, l); got != nil {
			t.Errorf("%v: Closure is %v", l, got)
		}
	}
}
