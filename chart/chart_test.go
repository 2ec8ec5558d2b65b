package chart

import (
	"math"
	"reflect"
	"strconv"
	"strings"
	"testing"

	"bramble/api"
	"bramble/flat"
	"bramble/sample"
)

// plain is a fit plain grammar of which no symbol comes of itself alone, by its terminals' names, its others', and its productions.
func plain(t *testing.T, terms, nons, prods string) api.Flat {
	t.Helper()
	f := sample.FlatOf(terms, nons, prods)
	if !flat.Fit(f) || sample.Round(f) {
		t.Fatalf("%s is none that flat.Make could have made", prods)
	}
	return f
}

// show is a way as text: a terminal by its name, another symbol by its production and its kids.
func show(f api.Flat, d api.Der) string {
	if d.Prod == -1 {
		return f.Terms[d.Sym]
	}
	words := []string{strconv.Itoa(d.Prod)}
	for _, kid := range d.Kids {
		words = append(words, show(f, kid))
	}
	return "(" + strings.Join(words, " ") + ")"
}

// sums is a grammar of which a row of some + has many ways.
const sums = "a -> a + a; a -> x"

// P15.2, P15.3: how many ways there are, and the best one; "" is none.
func TestBest(t *testing.T) {
	for _, c := range []struct {
		what, nons, prods, row string
		ways                   int
		best                   string
	}{
		{"the chapter's", "a", sums, "x + x + x", 2, "(0 (0 (1 x) + (1 x)) + (1 x))"},
		{"a greater Prec", "a", "a -> a + a; a -> x; a -> x %1", "x + x + x", 16, "(0 (0 (2 x) + (2 x)) + (2 x))"},
		{"one token", "a", sums, "x", 1, "(1 x)"},
		{"a token too many", "a", sums, "x + x +", 0, ""},
		{"a token ahead", "a", sums, "+ x", 0, ""},
		{"one that ends early", "a", sums, "x x", 0, ""},
		{"another terminal", "a", sums, "x * x", 0, ""},
		{"the empty row, that is none", "a", sums, "", 0, ""},
		{"the empty row", "a", "a -> a + a; a ->", "", 1, "(1)"},
		{"the empty row, of one without productions", "a b", "b -> x", "", 0, ""},
		{"a token, of one without productions", "a b", "b -> x", "x", 0, ""},
		{"one of the others, that is not the first of Nons", "a b", "a -> x; b -> +", "+", 0, ""},
		{"nothing, in two ways", "a b c", "a -> b; a -> c; b ->; c ->", "", 2, "(0 (2))"},
		{"nothing, in two ways that count", "a b c", "a -> b; a -> c; b ->; c -> %1", "", 2, "(1 (3))"},
		{"items that come of nothing", "a b", "a -> b b b; b -> x; b ->", "x", 3, "(0 (1 x) (2) (2))"},
		{"items that come of nothing, all", "a b", "a -> b b b; b -> x; b ->", "", 1, "(0 (2) (2) (2))"},
		{"items that come of nothing, none", "a b", "a -> b b b; b -> x; b ->", "x x x", 1, "(0 (1 x) (1 x) (1 x))"},
		{"too many for items that come of nothing", "a b", "a -> b b b; b -> x; b ->", "x x x x", 0, ""},
		{"what comes of nothing counts", "a b c", "a -> b c b; b ->; b -> x; c -> x; c -> %1", "x", 3, "(0 (2 x) (4) (1))"},
		{"what comes of nothing counts less", "a b c", "a -> b c b; b -> %-1; b -> x; c -> x %1; c ->", "x", 3, "(0 (2 x) (4) (1))"},
		{"the less Prod of two", "a b", "a -> b; a -> x; b -> x", "x", 2, "(0 (2 x))"},
		{"the less Prod counts less than what is within", "a b", "a -> b; a -> x; b -> x %-1", "x", 2, "(1 x)"},
		{"the less Prod, both count below 0", "a b", "a -> b %-2; a -> x %-3; b -> x %-1", "x", 2, "(0 (2 x))"},
		{"counts alike by other parts", "a b", "a -> b %1; a -> x %0; b -> x %-1", "x", 2, "(0 (2 x))"},
		{"Prods alike, the first kid ends later", "a b", "a -> b b; b -> x; b -> x x", "x x x", 2, "(0 (2 x x) (1 x))"},
		{"the first kid that ends later counts less", "a b", "a -> b b; b -> x; b -> x x %-1", "x x x", 2, "(0 (2 x x) (1 x))"},
		{"the first kid ends earlier, and counts more", "a b c", "a -> b c; b -> x %1; b -> x x; c -> x; c -> x x", "x x x", 2, "(0 (1 x) (4 x x))"},
		{"the second kid counts more, so the first ends earlier", "a b c", "a -> b c; b -> x; b -> x x; c -> x; c -> x x %3", "x x x", 2, "(0 (1 x) (4 x x))"},
		{"the second kid counts less", "a b c", "a -> b c; b -> x; b -> x x; c -> x; c -> x x %-3", "x x x", 2, "(0 (2 x x) (3 x))"},
		{"kids alike but for the last, which is ahead", "a b", "a -> x x b; b -> x; b -> x", "x x x", 2, "(0 x x (1 x))"},
		{"kids alike but for one within, that counts more", "a b", "a -> x x b; b -> x; b -> x %2", "x x x", 2, "(0 x x (2 x))"},
		{"the middle kid ends later, as the first can't", "a b c", "a -> b c c; b -> x; c -> x; c -> x x; c ->", "x x x", 3, "(0 (1 x) (3 x x) (4))"},
		{"one in another, to the left", "a", "a -> a a; a -> x", "x x x x", 5, "(0 (0 (0 (1 x) (1 x)) (1 x)) (1 x))"},
		{"by the left, without end", "a", "a -> a x; a -> x", "x x x", 1, "(0 (0 (1 x) x) x)"},
		{"by the right", "a", "a -> x a; a -> x", "x x x", 1, "(0 x (0 x (1 x)))"},
		{"in the middle", "a", "a -> x a x; a -> +", "x x + x x", 1, "(0 x (0 x (1 +) x) x)"},
		{"in the middle, of nothing", "a", "a -> x a x; a ->", "x x x x", 1, "(0 x (0 x (1) x) x)"},
		{"in the middle, of nothing, an odd number", "a", "a -> x a x; a ->", "x x x", 0, ""},
		{"one that has no ways is an item", "a b", "a -> b x; a -> x; b -> b x", "x x", 0, ""},
		{"one that has no ways is beside another one", "a b", "a -> b; a -> x; b -> b x", "x", 1, "(1 x)"},
		{"one alone of others", "a b c", "a -> b; b -> c; c -> x", "x", 1, "(0 (1 (2 x)))"},
		{"two and three at once", "a", "a -> a a a; a -> a a; a -> x", "x x x", 3, "(0 (2 x) (2 x) (2 x))"},
		{"two count more than three", "a", "a -> a a a; a -> a a %1; a -> x", "x x x", 3, "(1 (1 (2 x) (2 x)) (2 x))"},
		{"the numbers of terminals are those of the row", "a", sums, "0 1 0", 0, ""},
		{"the numbers of terminals", "a", sums, "1 0 1", 1, "(0 (1 x) + (1 x))"},
		{"a number below 0", "a", sums, "x + -1", 0, ""},
		{"a number below 0, ahead", "a", sums, "-1 + x", 0, ""},
		{"a number beyond the terminals, of one of Nons", "a", sums, "3 + x", 0, ""},
		{"the first of Nons alone", "a", sums, "3", 0, ""},
		{"a number beyond the others", "a", sums, "x + 4", 0, ""},
		{"numbers far off", "a", sums, "9223372036854775807 + x", 0, ""},
		{"numbers far off below 0", "a", sums, "x + -9223372036854775808", 0, ""},
		{"a number that is none, where nothing is wanted", "a", "a ->", "-1", 0, ""},
	} {
		f := plain(t, "+ x *", c.nons, c.prods)
		l := sample.RowOf(f, c.row)
		d, ok := Best(f, l)
		if ok != (c.best != "") || Accepts(f, l) != ok || Count(f, l, 1000) != c.ways {
			t.Errorf("%s: Best tells %v, Accepts %v, Count %d", c.what, ok, Accepts(f, l), Count(f, l, 1000))
			continue
		}
		if !ok && !reflect.DeepEqual(d, api.Der{}) || ok && show(f, d) != c.best {
			t.Errorf("%s: %v", c.what, d)
		}
		if ok && (d.From != 0 || d.To != len(l) || d.Sym != len(f.Terms) || !Fit(f, l, d)) {
			t.Errorf("%s: %v is no way of all", c.what, d)
		}
		holdWords(t, f, l)
	}
}

// P15.3: how many, but most, if there are more.
func TestCountOfMost(t *testing.T) {
	f := plain(t, "+ x", "a", sums)
	l := sample.RowOf(f, "x + x + x + x + x")
	for _, c := range []struct{ most, want int }{
		{math.MinInt, 0}, {-1, 0}, {0, 0}, {1, 1}, {2, 2}, {7, 7}, {12, 12}, {13, 13}, {14, 14}, {15, 14}, {16, 14}, {math.MaxInt, 14},
	} {
		if got := Count(f, l, c.most); got != c.want {
			t.Errorf("%d at most: %d, not %d", c.most, got, c.want)
		}
		if got := Count(f, l[:4], c.most); got != 0 {
			t.Errorf("%d at most, of none: %d", c.most, got)
		}
	}
}

// The fields of a way, each part written out.
func TestBestInFull(t *testing.T) {
	f := plain(t, "+ x", "a b", "a -> b + a; a -> b; b -> x; b ->")
	leaf := func(sym, at int) api.Der { return api.Der{Sym: sym, Prod: -1, From: at, To: at + 1} }
	want := api.Der{Sym: 2, Prod: 0, From: 0, To: 2, Kids: []api.Der{
		{Sym: 3, Prod: 2, From: 0, To: 1, Kids: []api.Der{leaf(1, 0)}},
		leaf(0, 1),
		{Sym: 2, Prod: 1, From: 2, To: 2, Kids: []api.Der{{Sym: 3, Prod: 3, From: 2, To: 2}}},
	}}
	if got, ok := Best(f, []int{1, 0}); !ok || !reflect.DeepEqual(got, want) {
		t.Errorf("%v, not %v", got, want)
	}
}
