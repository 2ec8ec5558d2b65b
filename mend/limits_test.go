package mend

import (
	"fmt"
	"math"
	"reflect"
	"slices"
	"strings"
	"testing"

	"bramble/api"
	"bramble/flat"
	"bramble/gram"
	"bramble/sample"
)

// made is the plain grammar of some rules.
func made(t *testing.T, rules ...string) api.Flat {
	t.Helper()
	g, _, fault := gram.Parse("grammar g\nrule " + strings.Join(rules, "\nrule ") + "\n")
	f, err := flat.Make(g)
	if fault.Err != api.OK || err != api.OK {
		t.Fatalf("%q: %v, %v", rules, fault, err)
	}
	return f
}

// many is so many of one terminal.
func many(term, times int) []int {
	return slices.Repeat([]int{term}, times)
}

// lacks is a grammar of which the only text is so many of one terminal.
func lacks(times int) api.Flat {
	f := sample.FlatOf("x", "a", "a ->")
	f.Prods[0].Right = slices.Repeat(sample.Items(0), times)
	return f
}

// P18.2: wholes that cost just 120, and less, and ones that would cost more.
func TestMostCost(t *testing.T) {
	for _, c := range []struct{ wanted, there, other, cost int }{
		{0, 0, 0, 0}, {39, 0, 0, 117}, {40, 0, 0, 120}, {41, 0, 0, -1}, {64, 0, 0, -1},
		{64, 24, 0, 120}, {64, 23, 0, -1}, {64, 40, 0, 72}, {41, 1, 0, 120}, {60, 20, 0, 120}, {60, 19, 0, -1},
		{14, 0, 39, 120}, {14, 0, 40, -1}, {13, 0, 40, 119}, {15, 1, 39, 120}, {38, 0, 3, 120}, {38, 0, 4, -1}, {39, 0, 1, 119}, {39, 0, 2, -1}, {40, 0, 1, -1},
		{40, 2, 3, 120}, {0, 0, 40, 80}, {1, 0, 40, 83}, {1, 1, 39, 78},
	} {
		f := lacks(c.wanted)
		for _, l := range [][]int{
			append(many(0, c.there), many(-1, c.other)...),
			append(many(1, c.other), many(0, c.there)...),
			append(append(many(0, c.there/2), many(7, c.other)...), many(0, c.there-c.there/2)...),
		} {
			m, ok := Best(f, l)
			if ok != (c.cost >= 0) || ok && (Cost(m) != c.cost || len(Text(m)) != c.wanted || !Fit(f, l, m)) || !ok && !reflect.DeepEqual(m, api.Mended{}) {
				t.Errorf("%v: %v: %v, costs %d", c, l, ok, Cost(m))
			}
		}
	}
}

// P18.2: of one that would cost more another one is taken, whatever that counts.
func TestMostCostBesideAnother(t *testing.T) {
	for wanted, best := range map[int]int{40: 0, 41: 1} {
		f := lacks(wanted)
		f.Nons = append(f.Nons, "b")
		f.Prods = append(f.Prods, api.Prod{Left: 1, Right: append(slices.Repeat(sample.Items(0), 40), sample.Items(2)...), Prec: -1}, api.Prod{Left: 2})
		if m, ok := Best(f, nil); !ok || m.Root.Prod != best || Cost(m) != api.MaxCost {
			t.Errorf("%d wanted: %v", wanted, m)
		}
	}
}

// P18.5, P18.6: a token more at the end, and a number that is no terminal anywhere, up to a cost of 120 and rows of 40.
func TestOneMoreAtTheLimits(t *testing.T) {
	for _, c := range []struct{ wanted, there, cost int }{{39, 0, 117}, {64, 25, 117}, {64, 38, 78}, {64, 39, 75}, {20, 39, 38}} {
		l := many(0, c.there)
		if got := holdFollows(t, lacks(c.wanted), l); got != c.cost {
			t.Errorf("%v: costs %d", c, got)
		}
		holdOneMore(t, lacks(c.wanted), l)
	}
}

// Rows of just 40, and of some more.
func TestLongRows(t *testing.T) {
	left, right := made(t, "a a \"x\" | \"x\""), made(t, "a \"x\" a | ()")
	for _, n := range []int{39, 40, 41, 79, 80} {
		for _, f := range []api.Flat{left, right} {
			l := many(0, n)
			if holdFollows(t, f, l) != 0 {
				t.Errorf("%d tokens cost something", n)
			}
			l[0], l[n/2], l[n-1] = 1, -1, 2
			if got := holdFollows(t, f, l); got != 6 {
				t.Errorf("%d tokens, three of them passed over: %d", n, got)
			}
		}
	}
	if m, ok := Best(right, many(0, 81)); ok || !reflect.DeepEqual(m, api.Mended{}) {
		t.Errorf("81 tokens: %v", m)
	}
}

// P18.2: a row of just 40 with a fault in each five: what is ahead, part by part.
func TestFortyWrong(t *testing.T) {
	f := made(t, `p s*`, `s "x" "=" e ";"`, `e e "+" e | e "*" e | "(" e ")" | "n"`)
	l := sample.RowOf(f, strings.Repeat(`"x" "=" "(" "n" ";" "x" "n" "+" "n" ";" `, 4))
	want := "(6)"
	for range 4 {
		want = `(7 (7 ` + want + ` (1 "x" "=" (5 ~"n") ";")) (1 "x" !"=" (2 (5 "n") "+" (5 "n")) ";"))`
	}
	m, ok := Best(f, l)
	if !ok || len(l) != api.MaxTokens || holdFollows(t, f, l) != 4*(2+3) || showWhole(f, m) != "(0 "+want+")" {
		t.Errorf("%s costs %d", showWhole(f, m), Cost(m))
	}
}

// The way of a token is another symbol alone, and that the next, as often as can be, by rules ahead of or behind those that use them.
func TestLongestChain(t *testing.T) {
	down, up := []string{"a a a | b1"}, []string{"a a a | b62", "b1 \"x\" \"y\""}
	for i := 1; i < 62; i++ {
		down = append(down, fmt.Sprintf("b%d %%-1 b%d", i, i+1))
		up = append(up, fmt.Sprintf("b%d %%-1 b%d", i+1, i))
	}
	l := append(many(-1, 1), slices.Repeat([]int{0, 1, 0}, 13)...)
	for _, rules := range [][]string{append(down, "b62 \"x\" \"y\""), up} {
		f := made(t, rules...)
		m, ok := Best(f, l)
		if !ok || !Fit(f, l, m) || Cost(m) != 28 || len(sample.PartsOf(&m.Root)) != 12+13*(1+62+2) {
			t.Errorf("costs %d; %d parts", Cost(m), len(sample.PartsOf(&m.Root)))
		}
	}
}

// Costs that sink by one symbol a round, up to the last one, behind which none is left.
func TestMostRounds(t *testing.T) {
	for _, others := range []int{0, 1, 2, 63, 399} {
		f := sample.Symbols(1, 1+others)
		f.Prods = []api.Prod{{Left: 1, Right: sample.Items(0)}}
		for i := range others {
			f.Prods = append(f.Prods, api.Prod{Left: 2 + i, Right: sample.Items(1 + i)})
		}
		if m, ok := Best(f, []int{-1, 0}); !ok || showWhole(f, m) != "(0 ~t0)" {
			t.Errorf("%d others: %v, %v", others, ok, m)
		}
	}
}

// 64 items, each of which may be empty, but all but the first 40 are: the first ones have the tokens.
func TestMostItems(t *testing.T) {
	f := made(t, "a "+strings.Repeat("b ", 64), "b \"x\"?")
	l := append(many(0, 20), many(1, 20)...)
	m, ok := Best(f, l)
	if !ok || m.Rest != 20 || len(m.Root.Kids) != 64 {
		t.Fatalf("%v", m)
	}
	for i, kid := range m.Root.Kids {
		if kid.From != min(i, 20) || kid.To != min(i+1, 20) {
			t.Errorf("kid %d: %v", i, kid)
		}
	}
}

// More than 100000 parts that come of nothing.
func TestMostOfNothing(t *testing.T) {
	times := func(name string, n int) string { return strings.Repeat(" "+name, n) }
	f := made(t, "a a a |"+times("e", 62)+" b", "b"+times("e", 62)+" c", "c"+times("e", 50)+" \"x\" \"y\"", "e"+times("h", 14), "h"+times("n", 13), "n ()")
	l := []int{0, -1, 1, 0, 0, 1, 1}
	m, ok := Best(f, l)
	// Of each text a, b, c, two tokens, and 174 times an e, with its 14 h and their 13 n; and one a of two.
	if got := len(sample.PartsOf(&m.Root)); !ok || !Fit(f, l, m) || Cost(m) != 6 || got != 2*(5+174*(1+14+14*13))+1 {
		t.Errorf("costs %d; %d parts", Cost(m), got)
	}
}

// P18.2: what counts one more is ahead, however much all of it counts.
func TestGreatCounts(t *testing.T) {
	times := func(name string, n int) string { return strings.Repeat(" "+name, n) }
	for _, prec := range []int{10000, -10000} {
		f := made(t, "a %1 a a | b | %1 b", "b"+times("e", 62)+" c", "c"+times("e", 62)+" \"x\"", "e"+times("h", 14), "h"+times("n", 13), "n ()")
		for i := 5; i < len(f.Prods); i++ {
			f.Prods[i].Prec = prec
		}
		l := append(many(0, 20), -1)
		m, ok := Best(f, l)
		if !ok || m.Rest != 1 || !Fit(f, l, m) {
			t.Fatalf("%d: %d parts", prec, len(sample.PartsOf(&m.Root)))
		}
		prods := make([]int, len(f.Prods))
		for _, part := range sample.PartsOf(&m.Root) {
			prods[max(0, part.Prod)]++
		}
		if prods[1] != 0 || prods[2] != 20 {
			t.Errorf("%d: each production so often: %v", prec, prods)
		}
		other := whole(m.Rest, sample.RoomyWay(m.Root))
		for _, part := range sample.PartsOf(&other.Root) {
			if part.Prod == 2 {
				part.Prod = 1
				break
			}
		}
		if !Fit(f, l, other) || !Ahead(f, m, other) || Ahead(f, other, m) {
			t.Errorf("%d: another one that counts one less is not behind", prec)
		}
	}
}

// The greatest grammars that can be made end soon.
func TestGreatest(t *testing.T) {
	for body, least := range map[string]int{
		strings.Repeat("a+ a | ", 75) + "\"x\"":                3,
		strings.Repeat("(a+)+ a | ", 40) + "\"x\"":             3,
		strings.Repeat(strings.Repeat("b ", 62)+"| ", 6) + "b": 0,
	} {
		f := made(t, "a "+body, "b c*", "c \"x\"")
		for _, c := range []struct {
			l    []int
			cost int
		}{{many(0, 40), 0}, {many(-1, 40), 2*40 + least}, {slices.Repeat([]int{0, 1, -1, 0}, 10), 2 * 20}} {
			if m, ok := Best(f, c.l); !ok || !Fit(f, c.l, m) || Cost(m) != c.cost {
				t.Errorf("%s, %v: %v, costs %d", body, c.l, ok, Cost(m))
			}
		}
	}
}

// Wholes of 5000 parts, one within the other, that differ in the last one alone.
func TestDeepWays(t *testing.T) {
	f := counts()
	chain := func(last api.Der) api.Mended {
		for range 4999 {
			last = by(2, 1, 0, 9, last, gone(0, 9))
		}
		return whole(0, last)
	}
	a, b := chain(by(0, 1, 0, 1)), chain(by(1, 1, 0, 1))
	if !Ahead(f, a, b) || Ahead(f, b, a) || Ahead(f, a, a) || Cost(a) != 3*4999 || len(Text(a)) != 4999 {
		t.Errorf("%v, %v, %v, %d", Ahead(f, a, b), Ahead(f, b, a), Ahead(f, a, a), Cost(a))
	}
	wide := whole(0, by(0, 1, 0, 9))
	for range 4999 {
		wide.Root.Kids = append(wide.Root.Kids, token(0, 0, 1))
	}
	other := whole(0, sample.RoomyWay(wide.Root))
	other.Root.Kids[4998].To = 0
	if !Ahead(f, wide, other) || Ahead(f, other, wide) || Cost(wide) != 2*4999 {
		t.Errorf("side by side: %v, %v, %d", Ahead(f, wide, other), Ahead(f, other, wide), Cost(wide))
	}
}

// callAll calls everything with a plain grammar, a row and two wholes.
func callAll(f api.Flat, l []int, a, b api.Mended) {
	Best(f, l)
	Cost(a)
	Fit(f, l, a)
	Ahead(f, a, b)
	Text(a)
}

// 0.1: whatever a call is given, it ends.
func TestOdd(t *testing.T) {
	far := []int{math.MinInt, -1, 0, 1, 600, math.MaxInt}
	rows := [][]int{nil, {0}, {1}, far, many(0, 40), many(0, 80), many(0, 81), many(0, 1<<20)}
	var wholes []api.Mended
	for _, n := range far {
		wholes = append(wholes, whole(n, api.Der{Sym: n, Prod: n, From: n, To: n, Junk: n}), whole(n, by(n, 1, n, n, token(n, n, n), gone(0, n))), whole(0, by(0, 1, 0, n, by(n, 1, n, 0))))
	}
	for i, f := range append(sample.OddFlats(), sample.FitFlats()...) {
		for k, l := range rows {
			callAll(f, l, wholes[(i+k)%len(wholes)], wholes[i%len(wholes)])
		}
	}
	f := counts()
	for _, a := range wholes {
		for _, b := range wholes {
			callAll(f, nil, a, b)
			Fit(f, far, a)
		}
	}
}

// 0.1: grammars of which a symbol comes of itself alone, so that there are ways without end, some of which count more and more.
func TestRound(t *testing.T) {
	seed := sample.Seed(188)
	round, told := 0, 0
	for f := range sample.Flats(sample.Symbols(1, 2), 3, 2) {
		if !sample.Round(f) {
			continue
		}
		for i := range f.Prods {
			f.Prods[i].Prec = []int{0, 0, 10000, -10000}[seed.Below(4)]
		}
		round++
		for n := range 3 {
			l := many(0, n)
			callAll(f, l, api.Mended{}, api.Mended{})
			if m, ok := Best(f, l); ok {
				told++
				if !Fit(f, l, m) {
					t.Fatalf("%v: %v is not fit", f, m)
				}
			}
		}
	}
	if round < 1000 || told < 100 {
		t.Errorf("%d of them, %d wholes", round, told)
	}
}

// 0.1: a whole of more parts than there is room for is not told, whatever it counts.
func TestTooManyParts(t *testing.T) {
	for _, prec := range []int{0, 10000, -10000} {
		f := sample.FitFlats()[1]
		for i := range f.Prods {
			f.Prods[i].Prec = prec
		}
		if m, ok := Best(f, nil); ok || !reflect.DeepEqual(m, api.Mended{}) {
			t.Errorf("%v", m)
		}
		f.Prods = f.Prods[380:]
		f.Prods[0].Left = 1 // 20 pairs within one another, of nothing
		if m, ok := Best(f, []int{0}); !ok || m.Rest != 1 || len(sample.PartsOf(&m.Root)) != 1<<20-1 {
			t.Errorf("%d parts", len(sample.PartsOf(&m.Root)))
		}
	}
}

// 0.1: counts that double, symbol by symbol, farther than a number goes, and change when they have come there: the first of these symbols comes of nothing in one round, and of one that counts more some rounds later.
func TestCountsWithoutEnd(t *testing.T) {
	f := sample.Symbols(1, 93)
	f.Prods = []api.Prod{{Left: 1}, {Left: 2}, {Left: 2, Right: sample.Items(93)}}
	for sym := 3; sym <= 90; sym++ {
		f.Prods = append(f.Prods, api.Prod{Left: sym, Right: sample.Items(sym-1, sym-1)})
	}
	f.Prods = append(f.Prods, api.Prod{Left: 91}, api.Prod{Left: 92, Right: sample.Items(91)}, api.Prod{Left: 93, Right: sample.Items(92)})
	for _, counts := range [][2]int{{1, 3}, {-3, -1}, {10000, 9999}, {9999, 10000}, {-10000, -9999}} {
		f.Prods[1].Prec, f.Prods[2].Prec = counts[0], counts[1]
		for top := 2; top <= 90; top++ {
			if 15 <= top && top <= 26 { // these are told, but are great
				continue
			}
			f.Prods[0].Right = sample.Items(top)
			if m, ok := Best(f, nil); ok != (top < 15) || ok && !Fit(f, nil, m) {
				t.Fatalf("%v, up to %d: %v", counts, top, ok)
			}
		}
	}
}

// Of a whole that has no end nothing is told.
func TestEndless(t *testing.T) {
	f := sample.FlatOf("x", "a", "a -> a a %1; a ->; a -> a")
	one := whole(1, by(1, 1, 0, 0))
	for i, d := range sample.EndlessWays() {
		m := whole(1, d)
		if Fit(f, []int{0}, m) || Cost(m) != 0 || Text(m) != nil || Ahead(f, m, one) || Ahead(f, one, m) || Ahead(f, m, m) {
			t.Errorf("way %d: something is told", i)
		}
	}
}

// A whole is told of up to 2^16 parts within one another, and no farther.
func TestDeepest(t *testing.T) {
	f := sample.FlatOf("x", "a", "a -> a %1; a ->")
	d := by(1, 1, 0, 0)
	for range 1<<16 - 1 {
		d = by(0, 1, 0, 0, d)
	}
	one := whole(1, by(1, 1, 0, 0))
	if m := whole(1, d); !Fit(f, []int{0}, m) || Cost(m) != 2 || !Ahead(f, m, one) {
		t.Errorf("%d parts: costs %d", 1<<16, Cost(m))
	}
	if m := whole(1, by(0, 1, 0, 0, d)); Fit(f, []int{0}, m) || Cost(m) != 0 || Ahead(f, m, one) {
		t.Errorf("%d parts: costs %d", 1<<16+1, Cost(m))
	}
}
