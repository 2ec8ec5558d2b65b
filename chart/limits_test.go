package chart

import (
	"fmt"
	"math"
	"math/big"
	"slices"
	"strings"
	"testing"

	"bramble/api"
	"bramble/flat"
	"bramble/gram"
	"bramble/sample"
)

// made is the plain grammar of some rules.
func made(t *testing.T, rules ...string) api.Flat {
	t.Helper()
	g, line, fault := gram.Parse("grammar g\nrule " + strings.Join(rules, "\nrule ") + "\n")
	if fault.Err != api.OK {
		t.Fatalf("line %d: %v", line, fault)
	}
	f, err := flat.Make(g)
	if err != api.OK {
		t.Fatal(err)
	}
	return f
}

// same is so many of one terminal.
func same(term, many int) []int {
	return slices.Repeat([]int{term}, many)
}

// holdCount fails where another number of ways is told than there is, of each most near it.
func holdCount(t *testing.T, what string, f api.Flat, l []int, want *big.Int) {
	t.Helper()
	top := big.NewInt(math.MaxInt)
	for by := int64(-2); by <= 2; by++ {
		most := new(big.Int).Add(want, big.NewInt(by))
		if most.Cmp(top) > 0 || by == -2 {
			most = top
		}
		told := most
		if want.Cmp(most) < 0 {
			told = want
		}
		if got := Count(f, l, int(most.Int64())); got != int(max(0, told.Int64())) {
			t.Errorf("%s, %v at most: %d, not %v", what, most, got, told)
		}
	}
	if some := Count(f, l, 1000); want.Cmp(big.NewInt(1000)) > 0 && some != 1000 {
		t.Errorf("%s, 1000 at most: %d", what, some)
	}
}

// P15.3: in how many ways a row of one terminal is two and two, up to rows of MaxTokens, where there are more than a number can tell.
func TestCountOfPairs(t *testing.T) {
	f := plain(t, "x", "a", "a -> a a; a -> x")
	sum := plain(t, "+ x", "a", sums)
	for n := 1; n <= api.MaxTokens; n++ {
		want := new(big.Int).Binomial(int64(2*n-2), int64(n-1))
		want.Div(want, big.NewInt(int64(n)))
		holdCount(t, fmt.Sprint(n, " tokens"), f, same(0, n), want)
		if n <= api.MaxTokens/2 {
			holdCount(t, fmt.Sprint(n, " tokens with + between"), sum, append(slices.Repeat([]int{1, 0}, n-1), 1), want)
		}
	}
	if Count(f, same(0, 36), math.MaxInt) != 3116285494907301262 || Count(f, same(0, 37), math.MaxInt) != math.MaxInt {
		t.Error("just below what a number can tell, and just above")
	}
}

// P15.3: so many ways of each of 40 tokens.
func TestCountOfPowers(t *testing.T) {
	for _, each := range []int{1, 2, 3, 4, 10, 399} {
		f := sample.Symbols(1, 2)
		f.Prods = []api.Prod{{Left: 1, Right: slices.Repeat(sample.Items(2), api.MaxTokens)}}
		for i := range each {
			f.Prods = append(f.Prods, api.Prod{Left: 2, Right: sample.Items(0), Prec: i % 3})
		}
		want := new(big.Int).Exp(big.NewInt(int64(each)), big.NewInt(api.MaxTokens), nil)
		holdCount(t, fmt.Sprint(each, " of each"), f, same(0, api.MaxTokens), want)
		d, ok := Best(f, same(0, api.MaxTokens))
		if !ok || Prec(f, d) != api.MaxTokens*min(2, each-1) || d.Kids[39].Prod != 1+min(2, each-1) {
			t.Errorf("%d of each: %v", each, d)
		}
	}
}

// 64 items, each of which may be empty: the first ones have the tokens.
func TestMostItems(t *testing.T) {
	f := made(t, "a "+strings.Repeat("b ", 64), "b \"x\"?")
	l := same(0, api.MaxTokens)
	holdCount(t, "40 of 64", f, l, new(big.Int).Binomial(64, 40))
	d, ok := Best(f, l)
	if !ok || !Fit(f, l, d) || len(d.Kids) != 64 {
		t.Fatalf("%v", d)
	}
	for i, kid := range d.Kids {
		if kid.From != min(i, 40) || kid.To != min(i+1, 40) {
			t.Errorf("kid %d: %v", i, kid)
		}
	}
	f = made(t, "a "+strings.Repeat("b ", 24)+strings.Repeat("c ", 40), "b \"x\"?", "c %1 \"x\" | %0 ()")
	if d, ok := Best(f, l); !ok || Prec(f, d) != 40 || d.Kids[23].To != 0 || d.Kids[24].To != 1 {
		t.Errorf("tokens that count at the end: %v", d)
	}
}

// Rows of just so many tokens, and rows that are longer by one, up to those that come of mending.
func TestLongRows(t *testing.T) {
	left, right := made(t, "a a \"x\" | \"x\""), made(t, "a \"x\" a | ()")
	for _, n := range []int{39, 40, 41, 63, 64, 65, 79, 80} {
		for _, f := range []api.Flat{left, right} {
			l := same(0, n)
			d, ok := Best(f, l)
			if !ok || !Accepts(f, l) || Count(f, l, 9) != 1 || !Fit(f, l, d) || d.To != n {
				t.Errorf("%d tokens: %v, %v", n, ok, d)
			}
			l[n-1] = 1
			if d, ok := Best(f, l); ok || Accepts(f, l) || d.Kids != nil {
				t.Errorf("%d tokens, the last another one: %v", n, d)
			}
			l[n-1], l[n/2] = 0, -1
			if Accepts(f, l) || Count(f, l, 9) != 0 {
				t.Errorf("%d tokens, one in the middle that is none: accepted", n)
			}
		}
	}
}

// A symbol that is another one alone, and that one the next, 63 times, of each token.
func TestLongestChain(t *testing.T) {
	rules := []string{"a a a | b1"}
	for i := 1; i < 63; i++ {
		rules = append(rules, fmt.Sprintf("b%d %%-1 b%d", i, i+1))
	}
	f := made(t, append(rules, "b63 \"x\"")...)
	l := same(0, api.MaxTokens)
	d, ok := Best(f, l)
	if !ok || !Fit(f, l, d) || Prec(f, d) != -62*40 || len(sample.PartsOf(&d)) != 39+40+40*64 {
		t.Errorf("%d parts, counts %d", len(sample.PartsOf(&d)), Prec(f, d))
	}
	if got := Count(f, l[:36], math.MaxInt); got != 3116285494907301262 {
		t.Errorf("%d ways", got)
	}
}

// More than 100000 parts that come of nothing.
func TestMostOfNothing(t *testing.T) {
	many := func(name string, n int) string { return strings.Repeat(" "+name, n) }
	f := made(t, "a a a |"+many("e", 62)+" b", "b"+many("e", 62)+" c", "c"+many("e", 50)+" \"x\"", "e"+many("h", 14), "h"+many("n", 13), "n ()")
	l := same(0, 4)
	d, ok := Best(f, l)
	if !ok || !Fit(f, l, d) || Count(f, l, 9) != 5 || Ahead(f, d, d) {
		t.Fatalf("Best tells %v; %d ways", ok, Count(f, l, 9))
	}
	// Of each token a, b, c, and 174 times an e, with its 14 h and their 13 n; and 3 a of two.
	if got := len(sample.PartsOf(&d)); got != 4*(4+174*(1+14+14*13))+3 {
		t.Errorf("%d parts", got)
	}
}

// The greatest grammars that can be made end soon.
func TestGreatest(t *testing.T) {
	l := same(0, api.MaxTokens)
	for _, body := range []string{
		strings.Repeat("a+ a | ", 75) + "\"x\"",
		strings.Repeat("(a+)+ a | ", 40) + "\"x\"",
		strings.Repeat(strings.Repeat("b ", 62)+"| ", 6) + "b",
	} {
		f := made(t, "a "+body, "b c*", "c \"x\"")
		d, ok := Best(f, l)
		if !ok || Count(f, l, 1000000) != 1000000 || !Fit(f, l, d) {
			t.Errorf("%s: %v", body, ok)
		}
	}
}

// Ways of 5000 parts, one within the other, that differ in the last one alone.
func TestDeepWays(t *testing.T) {
	f := counts()
	chain := func(last api.Der, many int) api.Der {
		for range many - 1 {
			last = by(2, 1, 0, 9, last)
		}
		return last
	}
	a, b := chain(by(0, 1, 0, 1), 5000), chain(by(1, 1, 0, 1), 5000)
	if !Ahead(f, a, b) || Ahead(f, b, a) || Ahead(f, a, a) || Prec(f, a) != 4999 {
		t.Errorf("%v, %v, %v, %d", Ahead(f, a, b), Ahead(f, b, a), Ahead(f, a, a), Prec(f, a))
	}
	wide := by(0, 1, 0, 9)
	for range 4999 {
		wide.Kids = append(wide.Kids, by(3, 1, 0, 1))
	}
	other := sample.RoomyWay(wide)
	other.Kids[4998].To = 0
	if !Ahead(f, wide, other) || Ahead(f, other, wide) || Prec(f, wide) != 2*4999 {
		t.Errorf("side by side: %v, %v, %d", Ahead(f, wide, other), Ahead(f, other, wide), Prec(f, wide))
	}
}

// callAll calls everything with a plain grammar, a row and two ways.
func callAll(f api.Flat, l []int, a, b api.Der) {
	Accepts(f, l)
	Best(f, l)
	for _, most := range []int{math.MinInt, 0, 1, 9, math.MaxInt} {
		Count(f, l, most)
	}
	Prec(f, a)
	Fit(f, l, a)
	Ahead(f, a, b)
}

// 0.1: whatever a call is given, it ends.
func TestOdd(t *testing.T) {
	far := []int{math.MinInt, -1, 0, 1, 600, math.MaxInt}
	rows := [][]int{nil, {0}, {1}, far, same(0, 40), same(0, 80), same(1, 80), same(0, 81), same(0, 1<<20)}
	var ways []api.Der
	for _, n := range far {
		ways = append(ways, api.Der{Sym: n, Prod: n, From: n, To: n, Junk: n}, by(n, 1, n, n, leaf(n, n), leaf(0, n)), by(0, 1, 0, n, by(n, 1, n, 0)))
	}
	for i, f := range append(sample.OddFlats(), sample.FitFlats()...) {
		for k, l := range rows {
			callAll(f, l, ways[(i+k)%len(ways)], ways[i%len(ways)])
		}
	}
	f := counts()
	for _, a := range ways {
		for _, b := range ways {
			callAll(f, nil, a, b)
			Fit(f, far, a)
		}
	}
}

// 0.1: grammars of which a symbol comes of itself alone, so that there are ways without end.
func TestRound(t *testing.T) {
	round := 0
	for f := range sample.Flats(sample.Symbols(1, 2), 3, 2) {
		if sample.Round(f) {
			round++
			for n := range 4 {
				callAll(f, same(0, n), api.Der{}, api.Der{})
				if d, ok := Best(f, same(0, n)); ok && !Fit(f, same(0, n), d) {
					t.Fatalf("%v: %v is not fit", f, d)
				}
			}
		}
	}
	if round < 1000 {
		t.Errorf("%d of them", round)
	}
}

// 0.1: a way of more parts than there is room for is not told.
func TestTooManyParts(t *testing.T) {
	f := sample.FitFlats()[1]
	if d, ok := Best(f, nil); ok || d.Kids != nil || d.Sym != 0 {
		t.Errorf("%v", d)
	}
	f.Prods = f.Prods[380:]
	f.Prods[0].Left = 1 // 20 pairs within one another, of nothing
	if d, ok := Best(f, nil); !ok || len(sample.PartsOf(&d)) != 1<<20-1 {
		t.Errorf("%d parts", len(sample.PartsOf(&d)))
	}
}

// Of a way that has no end nothing is told.
func TestEndless(t *testing.T) {
	f := sample.FlatOf("x", "a", "a -> a a; a ->; a -> a")
	f.Prods[0].Prec = 1
	for i, d := range sample.EndlessWays() {
		if Fit(f, nil, d) || Prec(f, d) != 0 || Ahead(f, d, api.Der{Prod: 1}) || Ahead(f, api.Der{Prod: 1}, d) || Ahead(f, d, d) {
			t.Errorf("way %d: something is told", i)
		}
	}
}

// A way is told of up to 2^16 parts within one another, and no farther.
func TestDeepest(t *testing.T) {
	f := sample.FlatOf("x", "a", "a -> a; a ->")
	f.Prods[0].Prec = 1
	d := by(1, 1, 0, 0)
	for range 1<<16 - 1 {
		d = by(0, 1, 0, 0, d)
	}
	if !Fit(f, nil, d) || Prec(f, d) != 1<<16-1 || !Ahead(f, d, by(1, 1, 0, 0)) {
		t.Errorf("%d parts: Prec %d", 1<<16, Prec(f, d))
	}
	if d = by(0, 1, 0, 0, d); Fit(f, nil, d) || Prec(f, d) != 0 {
		t.Errorf("%d parts: Prec %d", 1<<16+1, Prec(f, d))
	}
}
