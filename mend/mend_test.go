package mend

import (
	"reflect"
	"strconv"
	"strings"
	"testing"

	"bramble/api"
	"bramble/flat"
	"bramble/sample"
)

// plain is a fit plain grammar of which no symbol comes of itself alone, of the terminals + x * ( and ).
func plain(t *testing.T, nons, prods string) api.Flat {
	t.Helper()
	f := sample.FlatOf("+ x * ( )", nons, prods)
	if !flat.Fit(f) || sample.Round(f) {
		t.Fatalf("%s is none that flat.Make could have made", prods)
	}
	return f
}

// show is a mended way as text: a terminal by its name, behind a ! if it is missing, behind a ~ for each token that is passed over; another symbol by its production and its kids.
func show(f api.Flat, d api.Der) string {
	switch d.Prod {
	case -1:
		return strings.Repeat("~", d.Junk) + f.Terms[d.Sym]
	case -2:
		return "!" + f.Terms[d.Sym]
	}
	words := []string{strconv.Itoa(d.Prod)}
	for _, kid := range d.Kids {
		words = append(words, show(f, kid))
	}
	return "(" + strings.Join(words, " ") + ")"
}

// showWhole is a mended whole as text, a ~ behind it for each token of Rest.
func showWhole(f api.Flat, m api.Mended) string {
	return strings.TrimSpace(show(f, m.Root) + " " + strings.Repeat("~", m.Rest))
}

// mending is a row of a grammar's, and its best whole, with what that costs; "" is none.
type mending struct {
	what, nons, prods, row string
	cost                   int
	best                   string
}

// holdMendings fails where another whole is told.
func holdMendings(t *testing.T, all []mending) {
	t.Helper()
	for _, c := range all {
		f := plain(t, c.nons, c.prods)
		l := sample.RowOf(f, c.row)
		m, ok := Best(f, l)
		if ok != (c.best != "") || Cost(m) != c.cost {
			t.Errorf("%s: %v, costs %d", c.what, ok, Cost(m))
			continue
		}
		if !ok && !reflect.DeepEqual(m, api.Mended{}) || ok && (showWhole(f, m) != c.best || !Fit(f, l, m)) {
			t.Errorf("%s: %s", c.what, showWhole(f, m))
		}
		holdWords(t, f, l)
		holdFollows(t, f, l)
	}
}

// Grammars that are mended.
const (
	round = "a -> ( x )"
	sums  = "a -> a + a; a -> x"
	pairs = "a -> ( a ); a -> x"
	nones = "a -> b + b; b ->; b -> x"
)

// P18.2: tokens that are missing: at the beginning, in the middle, at the end, several in a row.
func TestMissing(t *testing.T) {
	holdMendings(t, []mending{
		{"the chapter's, the last one", "a", round, "( x", 3, "(0 ( x !))"},
		{"the chapter's, the first and the last one", "a", round, "x", 6, "(0 !( x !))"},
		{"the first one", "a", round, "x )", 3, "(0 !( x ))"},
		{"the middle one", "a", round, "( )", 3, "(0 ( !x ))"},
		{"the first two", "a", round, ")", 6, "(0 !( !x ))"},
		{"the last two", "a", round, "(", 6, "(0 ( !x !))"},
		{"all, of no terminals", "a", round, "", 9, "(0 !( !x !))"},
		{"one, of no terminals", "a", sums, "", 3, "(1 !x)"},
		{"none, of no terminals", "a", "a ->", "", 0, "(0)"},
		{"none, of no terminals, one within the other", "a b", "a -> b b; b ->; b -> x", "", 0, "(0 (1) (1))"},
		{"the less costly production, of no terminals", "a", "a -> x x; a -> +", "", 3, "(1 !+)"},
		{"several in a row, behind the first", "a", "a -> x + x + x", "x", 12, "(0 x !+ !x !+ !x)"},
		{"several in a row, in the middle", "a", "a -> x + + + *", "x *", 9, "(0 x !+ !+ !+ *)"},
		{"several in a row, ahead of the last", "a", "a -> x + + + *", "*", 12, "(0 !x !+ !+ !+ *)"},
		{"the second and the fourth", "a", "a -> x + x + x", "x x x", 6, "(0 x !+ x !+ x)"},
		{"behind the second of three", "a", "a -> x + x + x", "x x", 9, "(0 x !+ x !+ !x)"},
		{"around one", "a", "a -> x + x + x", "+", 12, "(0 !x + !x !+ !x)"},
		{"within others", "a b c", "a -> b; b -> ( c ); c -> x +", "( x )", 3, "(0 (1 ( (2 x !+) )))"},
		{"one of Nons whole", "a b", "a -> ( b ); b -> x +", "( )", 6, "(0 ( (1 !x !+) ))"},
		{"one of Nons that is nothing instead", "a b", "a -> ( b ); b -> x; b ->", "( )", 0, "(0 ( (2) ))"},
		{"ahead of what can be nothing", "a b", nones, "x", 3, "(0 (2 x) !+ (1))"},
		{"between what can be nothing", "a b", nones, "", 3, "(0 (1) !+ (1))"},
		{"between two that could be nothing", "a b", nones, "x x", 3, "(0 (2 x) !+ (2 x))"},
	})
}

// P18.2: tokens that are passed over: ahead of a terminal, behind the whole, and where either could be.
func TestPassedOver(t *testing.T) {
	holdMendings(t, []mending{
		{"the chapter's, ahead of the last", "a", round, "( x x )", 2, "(0 ( ~x ))"},
		{"ahead of the first", "a", round, "x ( x )", 2, "(0 ~( x ))"},
		{"ahead of the first, several", "a", round, "x ) x ( x )", 6, "(0 ~~~( x ))"},
		{"ahead of the middle one", "a", round, "( + + x )", 4, "(0 ( ~~x ))"},
		{"behind the whole", "a", round, "( x ) (", 2, "(0 ( x )) ~"},
		{"behind the whole, several", "a", round, "( x ) ( x x", 6, "(0 ( x )) ~~~"},
		{"ahead of each, and behind the whole", "a", round, "+ ( + x + ) +", 8, "(0 ~( ~x ~)) ~"},
		{"ahead of it or behind it: the less Rest", "a", "a -> x", "x x", 2, "(0 ~x)"},
		{"ahead of it or behind it, several: the less Rest", "a", "a -> x", "x + x", 4, "(0 ~~x)"},
		{"some ahead of it, some behind it", "a", "a -> x", "x x +", 4, "(0 ~x) ~"},
		{"all behind nothing", "a", "a ->", "x x", 4, "(0) ~~"},
		{"behind what can be nothing: the less Rest", "a b", "a -> x b; b ->; b -> +", "x x", 2, "(0 ~x (1))"},
		{"ahead of the first or the second: the first ends later", "a", "a -> x x", "x x x", 2, "(0 ~x x)"},
		{"ahead of the first or the second, several", "a", "a -> x x", "x x x x", 4, "(0 ~~x x)"},
		{"ahead of the second alone", "a", "a -> x x", "x + x", 2, "(0 x ~x)"},
		{"a whole within others", "a", pairs, "( ( x )", 2, "(0 ~( (1 x) ))"},
		{"all that would have to be closed", "a", pairs, "( ( ( x", 6, "(1 ~~~x)"},
		{"all that was not opened", "a", pairs, "x ) )", 4, "(1 x) ~~"},
		{"what was closed too late", "a", pairs, "( ( x ) ) )", 2, "(0 ( (0 ( (1 x) ~)) ))"},
		{"one of two signs", "a", sums, "x + + x", 2, "(0 (1 x) ~+ (1 x))"},
		{"the sign at the end", "a", sums, "x +", 2, "(1 x) ~"},
		{"the sign at the beginning", "a", sums, "+ x", 2, "(1 ~x)"},
		{"one of two, rather than a sign missing", "a", sums, "x x", 2, "(1 ~x)"},
	})
}

// P18.2: tokens that are passed over beside ones that are missing.
func TestPassedOverAndMissing(t *testing.T) {
	holdMendings(t, []mending{
		{"a sign alone: passed over, as two are missing else", "a", sums, "+", 5, "(1 !x) ~"},
		{"another terminal than the one that is missing", "a", "a -> x", "+", 5, "(0 !x) ~"},
		{"another one in the middle", "a", round, "( + )", 5, "(0 ( !x ~))"},
		{"another one at the beginning", "a", round, "+ x )", 5, "(0 !( ~x ))"},
		{"another one at the end", "a", round, "( x +", 5, "(0 ( x !)) ~"},
		{"all the other way round", "a", round, ") x (", 10, "(0 ~~( !x !))"},
		{"one missing, rather than two passed over", "a", "a -> ( x + + + ); a -> ( x )", "( x + + )", 3, "(0 ( x + + !+ ))"},
		{"one passed over, rather than one missing", "a", "a -> ( x + + ); a -> ( x )", "( x + )", 2, "(1 ( x ~))"},
		{"two missing cost as three passed over: the less Rest", "a", "a ->; a -> x x x x x", "x x x", 6, "(1 x x x !x !x)"},
		{"two missing cost as three passed over, which count more", "a", "a -> %1; a -> x x x x x", "x x x", 6, "(0) ~~~"},
	})
}

// P18.2: numbers that are no terminals, of which nothing comes, wherever they are.
func TestNoTerminals(t *testing.T) {
	holdMendings(t, []mending{
		{"below 0, the first", "a", round, "-1 ( x )", 2, "(0 ~( x ))"},
		{"below 0, in the middle", "a", round, "( -1 x )", 2, "(0 ( ~x ))"},
		{"below 0, the last", "a", round, "( x ) -1", 2, "(0 ( x )) ~"},
		{"one of Nons, the first", "a", round, "5 ( x )", 2, "(0 ~( x ))"},
		{"one of Nons, in the middle", "a", round, "( x 5 )", 2, "(0 ( x ~))"},
		{"one of Nons, the last", "a", round, "( x ) 5", 2, "(0 ( x )) ~"},
		{"one of Nons that is an item", "a", sums, "x + 5", 4, "(1 x) ~~"},
		{"above the last, the first", "a", round, "6 ( x )", 2, "(0 ~( x ))"},
		{"far off, in the middle", "a", round, "( 9223372036854775807 x -9223372036854775808 )", 4, "(0 ( ~x ~))"},
		{"far off, the last", "a", round, "( x ) 9223372036854775807", 2, "(0 ( x )) ~"},
		{"in place of a terminal", "a", round, "( -1 )", 5, "(0 ( !x ~))"},
		{"nothing but one", "a", round, "-1", 11, "(0 !( !x !)) ~"},
		{"nothing but some", "a", round, "-1 6 5", 15, "(0 !( !x !)) ~~~"},
		{"nothing but some, where nothing is wanted", "a", "a ->", "-1 6 5", 6, "(0) ~~~"},
	})
}

// P18.2: what is ahead of others that cost the same, or less.
func TestWhatIsAhead(t *testing.T) {
	holdMendings(t, []mending{
		{"cost the same, one counts more", "a", "a -> x +; a -> x * %1", "x", 3, "(1 x !*)"},
		{"cost the same, one counts less than nothing", "a", "a -> x + %-1; a -> x *", "x", 3, "(1 x !*)"},
		{"one costs less, the other counts more", "a", "a -> x x x %5; a -> x", "x", 0, "(1 x)"},
		{"one costs less by 1, the other counts more", "a", "a -> x x %5; a -> +", "x +", 2, "(1 ~+)"},
		{"what is within counts more", "a b c", "a -> b; a -> c; b -> x +; c -> x * %1", "x", 3, "(1 (3 x !*))"},
		{"one counts more, though its Rest is more", "a b", "a -> b; b -> x %1; b -> +", "x +", 2, "(0 (1 x)) ~"},
		{"count the same, the Rest is less, though its Prod is more", "a", "a -> x; a -> +", "x +", 2, "(1 ~+)"},
		{"the Rest the same, the less Prod", "a", "a -> x +; a -> x *", "x", 3, "(0 x !+)"},
		{"the Rest the same, the less Prod, though another token is missing", "a", "a -> + x; a -> x +", "x", 3, "(0 !+ x)"},
		{"the Prod the same, the first kid ends later", "a", "a -> x x", "x", 3, "(0 x !x)"},
		{"the Prod the same, the second kid ends later", "a", "a -> * x x", "* x", 3, "(0 * x !x)"},
		{"the first kid ends later by what is passed over", "a b", "a -> b b; b -> x; b -> x x", "x x x + x", 2, "(0 (2 x x) (2 x ~x))"},
		{"the first kid ends later, and counts less", "a b", "a -> b b; b -> x; b -> x x %-1; b -> +", "x x x *", 2, "(0 (2 x x) (1 x)) ~"},
		{"what lies below the first kids: the less Prod", "a b", "a -> b x; b -> +; b -> *", "x", 3, "(0 (1 !+) x)"},
		{"what lies below the first kids counts more", "a b", "a -> b x; b -> +; b -> * %1", "x", 3, "(0 (2 !*) x)"},
		{"what lies below the second kids", "a b", "a -> x b; b -> +; b -> *", "x", 3, "(0 x (1 !+))"},
		{"what lies far below the first kids", "a b c", "a -> b x; b -> c; c -> + x; c -> x *", "x x", 3, "(0 (1 (2 !+ x)) x)"},
		{"what lies below the first kids ends later", "a b c", "a -> b +; b -> c c; c -> x; c ->", "x +", 0, "(0 (1 (2 x) (3)) +)"},
		{"below the first kids a later end, of what is mended", "a b c", "a -> b +; b -> c c; c -> x; c -> *", "x +", 3, "(0 (1 (2 x) (2 !x)) +)"},
		{"a symbol over several productions, each of others", "a b c", "a -> b; a -> c; b -> x x; c -> + x", "x", 3, "(0 (2 x !x))"},
		{"a symbol over several productions, the other one", "a b c", "a -> b; a -> c; b -> x x; c -> + x", "+", 3, "(1 (3 + !x))"},
		{"what counts much is not gone round for", "a", "a -> a + a %99; a -> x", "x", 0, "(1 x)"},
		{"what counts much for nothing is taken", "a b", "a -> x b; b -> + %9; b ->", "x", 0, "(0 x (2))"},
	})
}

// P18.2, P18.5: wholes that there are not, and parts that there are not.
func TestNoWhole(t *testing.T) {
	holdMendings(t, []mending{
		{"the first of Nons comes of itself alone and a token", "a", "a -> a x", "x x", 0, ""},
		{"the first of Nons comes of no end of others", "a b", "a -> b; b -> b x", "x", 0, ""},
		{"the first of Nons comes of one another", "a b", "a -> x b; b -> a +", "", 0, ""},
		{"the first of Nons has no productions", "a b", "b -> x", "x", 0, ""},
		{"the first of Nons has no productions, of no terminals", "a b", "b ->", "", 0, ""},
		{"one of its productions is of no use", "a b", "a -> b; a -> x; b -> b x", "", 3, "(1 !x)"},
		{"another symbol is of no use", "a b", "a -> x; b -> b x", "x x", 2, "(0 ~x)"},
	})
}

// P18.4: rows that come of the grammar, in one way and in several.
func TestNothingToMend(t *testing.T) {
	holdMendings(t, []mending{
		{"one way", "a", round, "( x )", 0, "(0 ( x ))"},
		{"two ways", "a", sums, "x + x + x", 0, "(0 (0 (1 x) + (1 x)) + (1 x))"},
		{"many ways", "a", "a -> a a; a -> x", "x x x x", 0, "(0 (0 (0 (1 x) (1 x)) (1 x)) (1 x))"},
		{"two ways, the second counts more", "a b", "a -> b; a -> x %1; b -> x", "x", 0, "(1 x)"},
		{"two ways of nothing", "a b c", "a -> b; a -> c; b ->; c -> %1", "", 0, "(1 (3))"},
		{"a kid that ends later", "a b", "a -> b b; b -> x; b -> x x", "x x x", 0, "(0 (2 x x) (1 x))"},
	})
}

// The fields of a whole, each part written out.
func TestBestInFull(t *testing.T) {
	f := plain(t, "a b", "a -> b + b *; b -> x; b ->")
	want := api.Mended{Rest: 2, Root: api.Der{Sym: 5, Prod: 0, From: 0, To: 4, Kids: []api.Der{
		{Sym: 6, Prod: 1, From: 0, To: 2, Kids: []api.Der{{Sym: 1, Prod: -1, From: 0, To: 2, Junk: 1}}},
		{Sym: 0, Prod: -2, From: 2, To: 2},
		{Sym: 6, Prod: 2, From: 2, To: 2},
		{Sym: 2, Prod: -1, From: 2, To: 4, Junk: 1},
	}}}
	if got, ok := Best(f, sample.RowOf(f, "( x ( * -1 x")); !ok || !reflect.DeepEqual(got, want) {
		t.Errorf("%v, not %v", got, want)
	}
}
