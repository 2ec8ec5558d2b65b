package flat

import (
	"fmt"
	"slices"
	"testing"

	"bramble/api"
	"bramble/sample"
)

// roomyGram is a grammar in memory of its own, with room behind its lists.
func roomyGram(g api.Gram) api.Gram {
	g.Tokens = slices.Grow(slices.Clone(g.Tokens), 3)
	rules := make([]api.Rule, 0, len(g.Rules)+3)
	for _, r := range g.Rules {
		rules = append(rules, api.Rule{Name: r.Name, Body: sample.Roomy(r.Body)})
	}
	g.Rules = rules
	return g
}

// wholeGram is all that a grammar has, and what lies behind its lists.
func wholeGram(g api.Gram) string {
	return fmt.Sprintf("%#v %#v %#v", g, g.Tokens[:cap(g.Tokens)], g.Rules[:cap(g.Rules)])
}

// wholeFlat is all that a plain grammar has, and what lies behind its lists.
func wholeFlat(f api.Flat) string {
	s := fmt.Sprintf("%#v %q %q %v", f, f.Terms[:cap(f.Terms)], f.Nons[:cap(f.Nons)], f.Prods[:cap(f.Prods)])
	for _, p := range f.Prods {
		s += fmt.Sprint(p.Right[:cap(p.Right)])
	}
	return s
}

func TestArgumentsStay(t *testing.T) {
	for _, lines := range []string{
		`token t x; skip s y; rule a %2 (x:b=y c* | "x" (b c)+) | t; rule b "y" | c?; rule c ("z" | "x") ()`,
		`rule a ; rule b "z" "y" "x" a`,
		`rule a b; rule b none*`,
	} {
		g := roomyGram(read(t, lines))
		was := wholeGram(g)
		Literals(g)
		f, err := Make(g)
		if wholeGram(g) != was {
			t.Errorf("%s has changed", lines)
		}
		for _, r := range g.Rules {
			if !sample.RoomStays(r.Body) {
				t.Errorf("%s: something stands behind its lists", lines)
			}
		}
		if err != api.OK {
			continue
		}
		for _, f := range []api.Flat{sample.RoomyFlat(f), sample.RoomyFlat(small())} {
			was := wholeFlat(f)
			Fit(f)
			Same(f, sample.RoomyFlat(f))
			Same(f, f)
			Show(f)
			for sym := -1; sym < 9; sym++ {
				Hidden(f, sym)
				Of(f, sym)
			}
			if wholeFlat(f) != was {
				t.Errorf("%s: what is made has changed", lines)
			}
		}
	}
}

// spoil writes over all lists of a plain grammar, and behind them.
func spoil(f api.Flat) {
	for _, p := range f.Prods {
		right := p.Right[:cap(p.Right)]
		for i := range right {
			right[i] = api.Item{Sym: 77, Field: "gone", Alias: "gone"}
		}
	}
	for _, l := range [][]string{f.Terms[:cap(f.Terms)], f.Nons[:cap(f.Nons)]} {
		for i := range l {
			l[i] = "gone"
		}
	}
	prods := f.Prods[:cap(f.Prods)]
	for i := range prods {
		prods[i] = api.Prod{Left: 77}
	}
}

// What was told once may be written over: nothing that is told later, or beside it, changes.
func TestAnswersShareNothing(t *testing.T) {
	const lines = `token t x; rule a x:(b c)+ (b c)+ "x"? | b c; rule b "y" "y" | t; rule c (b "x")*`
	g := read(t, lines)
	want := made(t, lines)
	first, _ := Make(g)
	literals := Literals(g)
	slices.Reverse(literals)
	spoil(first)
	if again, _ := Make(g); !Same(again, want) || !Same(made(t, lines), want) || !slices.Equal(Literals(g), []string{"x", "y"}) {
		t.Errorf("%v is told, not %v", again, want)
	}
	for i, p := range want.Prods {
		rest := wholeFlat(api.Flat{Terms: want.Terms, Nons: want.Nons, Prods: slices.Concat(want.Prods[:i], want.Prods[i+1:])})
		spoil(api.Flat{Prods: []api.Prod{p}})
		if wholeFlat(api.Flat{Terms: want.Terms, Nons: want.Nons, Prods: slices.Concat(want.Prods[:i], want.Prods[i+1:])}) != rest {
			t.Errorf("production %d shares what another one has", i)
		}
	}
	f := small()
	places := Of(f, 2)
	places[0] = 99
	if got := Of(f, 2); !slices.Equal(got, []int{0, 1}) {
		t.Errorf("Of tells %v", got)
	}
}
