package check

import (
	"fmt"
	"slices"
	"strings"
	"testing"

	"bramble/api"
	"bramble/gram"
)

// read is a grammar of lines.
func read(t *testing.T, lines ...string) api.Gram {
	t.Helper()
	g, line, f := gram.Parse("grammar g\n" + strings.Join(lines, "\n"))
	if f.Err != api.OK {
		t.Fatalf("%q is no grammar: %v in line %d", lines, f, line)
	}
	return g
}

// told is the lines of a grammar, with ; between, and what Check tells of it.
type told struct {
	lines string
	err   api.Errno
	place int
}

func hold(t *testing.T, all []told) {
	t.Helper()
	for _, c := range all {
		if err, place := Check(read(t, strings.Split(c.lines, "; ")...)); err != c.err || place != c.place {
			t.Errorf("%s: %v at %d, not %v at %d", c.lines, err, place, c.err, c.place)
		}
	}
}

func TestCheckTellsTwice(t *testing.T) {
	hold(t, []told{
		{`token t x; token t x; rule a "x"`, api.ErrTwice, 1},
		{`token t x; token u x; token t y; rule a "x"`, api.ErrTwice, 2},
		{`skip t x; scan t yes; rule a "x"`, api.ErrTwice, 1},
		{`token t x; token u x; token u y; token t y; rule a "x"`, api.ErrTwice, 2},
		{`token t x; token t x; token t x; rule a "x"`, api.ErrTwice, 1},
		{`rule a "x"; rule a "x"`, api.ErrTwice, 1},
		{`rule a "x"; rule a "y"; rule a "z"`, api.ErrTwice, 1},
		{`token t x; rule a "x"; rule b "x"; rule b "y"; rule a "x"`, api.ErrTwice, 3},
		{`token a x; rule a "x"`, api.ErrTwice, 1},
		{`token t x; token u x; rule a "x"; rule u a`, api.ErrTwice, 3},
		{`rule a "x"; rule t "x"; token t x`, api.ErrTwice, 2},
		{`token a x; rule A "x"; rule aa "x"; rule _a "x"`, api.OK, 0},
		{`token g x; rule a g`, api.OK, 0},
		{`token t x; rule a a:t t:t=a t=t "t" "a"`, api.OK, 0},
	})
}

func TestCheckTellsName(t *testing.T) {
	hold(t, []told{
		{`rule _ "x"`, api.ErrName, 0},
		{`rule _a "x"`, api.ErrName, 0},
		{`rule __ "x"; rule a "x"`, api.ErrName, 0},
		{`token t x; token u y; rule _a t; rule b u`, api.ErrName, 2},
		{`rule _a "x"; token t x`, api.ErrName, 1},
		{`rule a _b; rule _b "x"`, api.OK, 0},
		{`token _ x; token _t x; rule a _ _t; rule _b "x"; rule _c "x"`, api.OK, 0},
		{`rule a_ "x"`, api.OK, 0},
		{`rule a _:"x"=_`, api.OK, 0},
	})
}

func TestCheckTellsEmpty(t *testing.T) {
	hold(t, []told{
		{`token t x*; rule a t`, api.ErrEmpty, 0},
		{`token t ; rule a t`, api.ErrEmpty, 0},
		{`token t (); rule a "x"`, api.ErrEmpty, 0},
		{`token s x; token t x|; rule a s t`, api.ErrEmpty, 1},
		{`token s x; token t x?y*; token u x?; rule a s t`, api.ErrEmpty, 1},
		{`skip t x*; rule a "x"`, api.ErrEmpty, 0},
		{`scan s yes; token t (a?)+; rule a s t`, api.ErrEmpty, 1},
		{`scan t yes; rule a t`, api.OK, 0},
		{`skipscan t yes; rule a "x"`, api.OK, 0},
		{`scan t no; rule a t`, api.OK, 0},
		{`token t x+; token u x?y; token v [^a]; skip w \s+; rule a t u v`, api.OK, 0},
		{`rule a "x"*; rule b ; rule c a?`, api.OK, 0},
	})
}

func TestCheckTellsNone(t *testing.T) {
	hold(t, []told{
		{`rule a b`, api.ErrNone, 0},
		{`rule a A`, api.ErrNone, 0},
		{`rule a g`, api.ErrNone, 0},
		{`token t x; token u x; rule a t; rule b u v`, api.ErrNone, 3},
		{`token t x; rule a t n; rule b n`, api.ErrNone, 1},
		{`rule a "x"; rule b "x" | ("y" z:(n=m)+)?`, api.ErrNone, 1},
		{`rule a %1 n`, api.ErrNone, 0},
		{`rule a n*`, api.ErrNone, 0},
		{`rule a n:"x"=m "o"`, api.OK, 0},
		{`token t x; rule a b t; rule b "x"`, api.OK, 0},
		{`rule a b; rule b "x"; rule unused b`, api.OK, 0},
	})
}

func TestCheckTellsKind(t *testing.T) {
	hold(t, []told{
		{`skip s x; rule a s`, api.ErrKind, 1},
		{`skipscan s no; rule a s`, api.ErrKind, 1},
		{`token t x; skip s x; rule a t; rule b "x"; rule c "x" | (t y:(s=z)+)?; rule d s`, api.ErrKind, 4},
		{`token t x; skip s y; rule a t`, api.OK, 0},
		{`token t x; skip s y; rule a s:t=s "s"`, api.OK, 0},
		{`skip s y; rule a "x"`, api.OK, 0},
	})
}

func TestCheckTellsRoundOfRepeated(t *testing.T) {
	hold(t, []told{
		{`rule a ()*`, api.ErrRound, 0},
		{`rule a ()+`, api.ErrRound, 0},
		{`rule a ("x"?)*`, api.ErrRound, 0},
		{`rule a ("x"?)+`, api.ErrRound, 0},
		{`rule a ("x"*)*`, api.ErrRound, 0},
		{`rule a ("x"*)+`, api.ErrRound, 0},
		{`rule a ("x" | )*`, api.ErrRound, 0},
		{`rule a ("x"? "y"*)+`, api.ErrRound, 0},
		{`rule a ((%1) (y:("x"?)=z))*`, api.ErrRound, 0},
		{`token t x; token u y; rule a t; rule b u; rule c (t u) | "z" n:("y" (t?)+)`, api.ErrRound, 4},
		{`rule a "z" b*; rule b "x"?`, api.ErrRound, 0},
		{`rule a "z" b+; rule b `, api.ErrRound, 0},
		{`rule a "z" b*; rule b c d; rule c d; rule d "x" | `, api.ErrRound, 0},
		{`rule a "z"; rule b "y"*; rule c b+`, api.ErrRound, 2},
		{`rule a "z" | "y" a*; rule b a`, api.OK, 0},
		{`rule a ()?`, api.OK, 0},
		{`rule a ("x"?)?`, api.OK, 0},
		{`rule a ("x"*)?`, api.OK, 0},
		{`rule a b?; rule b "x"?`, api.OK, 0},
		{`rule a "z" b?; rule b `, api.OK, 0},
		{`rule a ("x"* "y")* ("x"? "y")+; rule b "x"*; rule c (b "z")*`, api.OK, 0},
		{`rule a ("x" | "y")*`, api.OK, 0},
		{`token t x; rule a t* t+`, api.OK, 0},
		{`scan t yes; rule a t*`, api.OK, 0},
		{`rule a b*; rule b b "x" | "x" c; rule c c "y" | "y"`, api.OK, 0},
	})
}

// Each rule of a round is in it; what leads into it is not, nor is what it leads to.
func TestCheckTellsRoundOfLeading(t *testing.T) {
	hold(t, []told{
		{`rule a a`, api.ErrRound, 0},
		{`token t x; rule a a`, api.ErrRound, 1},
		{`rule a b; rule b a`, api.ErrRound, 0},
		{`rule a "x"; rule b c; rule c b`, api.ErrRound, 1},
		{`rule a b; rule b c; rule c d; rule d e; rule e a`, api.ErrRound, 0},
		{`rule a b; rule b c; rule c d; rule d e; rule e c`, api.ErrRound, 2},
		{`token t x; rule a b; rule b c; rule c b`, api.ErrRound, 2},
		{`rule a b | c; rule b "x"; rule c d; rule d c`, api.ErrRound, 2},
		{`rule a "x" | b; rule b "y" | a`, api.ErrRound, 0},
		{`rule a a | "x"`, api.ErrRound, 0},
		{`rule a x:a | "x"`, api.ErrRound, 0},
		{`rule a a=x | "x"`, api.ErrRound, 0},
		{`rule a %1 a | "x"`, api.ErrRound, 0},
		{`rule a (a "x")? a? | "x"`, api.ErrRound, 0},
		{`rule a a? "x"*`, api.ErrRound, 0},
		{`rule a "x" | (a (b "y")*); rule b "x"`, api.ErrRound, 0},
		{`rule a b+ | "x"; rule b "x" | a`, api.ErrRound, 0},
		{`rule a b* "y"?; rule b "x" | a "z" | c; rule c b | "x"`, api.ErrRound, 1},
		{`rule a b c b; rule b "x"?; rule c a | "y"`, api.ErrRound, 0},
		{`rule a b a; rule b `, api.ErrRound, 0},
		{`rule a a b; rule b "x"?`, api.ErrRound, 0},
		{`rule a "x"? "y"* () (b | "z" | ); rule b "x" | x:(c=d)?; rule c %-1 a`, api.ErrRound, 0},
		{`rule a a "x"`, api.OK, 0},
		{`rule a "x" a | "x"`, api.OK, 0},
		{`rule a b a "x" b; rule b "y"?`, api.OK, 0},
		{`rule a "(" a ")" | "x"`, api.OK, 0},
		{`rule a b; rule b "x" a | "y"`, api.OK, 0},
		{`rule a b c | "x"; rule b a "y"; rule c "x"? d; rule d c "x"`, api.OK, 0},
		{`rule a b c; rule b a "y" | "x"; rule c b`, api.OK, 0},
		{`rule a b b; rule b c c; rule c "x"`, api.OK, 0},
		{`rule a b | c; rule b d; rule c d; rule d "x"`, api.OK, 0},
		{`rule a a a | "x"`, api.OK, 0},
		{`rule a a a | `, api.ErrRound, 0},
	})
}

func TestCheckTellsStateOfUnfit(t *testing.T) {
	fit := func() api.Gram { return read(t, "token t x", "skip s y", "rule a t b", `rule b "x"?`) }
	if err, place := Check(fit()); err != api.OK || place != 0 {
		t.Fatalf("%v at %d", err, place)
	}
	for i, change := range []func(*api.Gram){
		func(g *api.Gram) { *g = api.Gram{} },
		func(g *api.Gram) { g.Name = "" },
		func(g *api.Gram) { g.Name = "9" },
		func(g *api.Gram) { g.Rules = nil },
		func(g *api.Gram) { g.Tokens[1].Name = "" },
		func(g *api.Gram) { g.Tokens[1].Rex = api.Rex{} },
		func(g *api.Gram) { g.Tokens[1].Rex = api.Rex{Op: api.RxStar} },
		func(g *api.Gram) { g.Tokens[1].Prog = []api.Ins{{Op: api.InYes}} },
		func(g *api.Gram) { g.Tokens[1] = api.Token{Name: "s", Prog: []api.Ins{{Op: 99}}} },
		func(g *api.Gram) { g.Rules[1].Name = "" },
		func(g *api.Gram) { g.Rules[1].Body = api.Gx{} },
		func(g *api.Gram) { g.Rules[1].Body = api.Gx{Op: api.GxStar} },
		func(g *api.Gram) { g.Rules[1].Body = api.Gx{Op: api.GxCat, Subs: []api.Gx{named("t")}} },
		func(g *api.Gram) { g.Rules[1].Body = api.Gx{Op: api.GxPlus, Subs: []api.Gx{{}}} },
		func(g *api.Gram) { g.Rules[1].Body = named("t", named("t")) },
		func(g *api.Gram) { g.Rules[1].Body = named("") },
		func(g *api.Gram) {
			g.Rules[1].Body = api.Gx{Op: api.GxCat, Subs: slices.Repeat([]api.Gx{named("t")}, 397)}
		},
		func(g *api.Gram) { g.Tokens = slices.Repeat(g.Tokens[:1], 65) },
		func(g *api.Gram) { g.Rules = slices.Repeat(g.Rules[1:], 65) },
	} {
		g := fit()
		change(&g)
		if err, place := Check(g); err != api.ErrState || place != 0 {
			t.Errorf("change %d: %v at %d", i, err, place)
		}
		if Empty(g) != nil || Alone(g) != nil {
			t.Errorf("change %d: something is told", i)
		}
		// What else is wrong stands behind it.
		g.Tokens = append(g.Tokens, api.Token{Name: "t"})
		g.Rules = append(g.Rules, api.Rule{Name: "t", Body: named("none")})
		if err, place := Check(g); err != api.ErrState || place != 0 {
			t.Errorf("change %d, with other faults: %v at %d", i, err, place)
		}
	}
}

// wrong is lines of a grammar in which one thing is wrong: rank is its error's place in the list, at the last name that is bad.
type wrong struct {
	rank   int
	err    api.Errno
	bad    string
	tokens []string
	rules  []string
}

func wrongs() []wrong {
	return []wrong{
		{1, api.ErrTwice, "tt", []string{"token tt x", "token tt y"}, nil},
		{1, api.ErrTwice, "rr", nil, []string{`rule rr "x"`, `rule rr "y"`}},
		{1, api.ErrTwice, "tr", []string{"skip tr x"}, []string{`rule tr "x"`}},
		{2, api.ErrName, "_first", nil, []string{`rule _first "x"`}},
		{3, api.ErrEmpty, "void", []string{"token void x*"}, nil},
		{3, api.ErrEmpty, "gap", []string{"skip gap x?"}, nil},
		{4, api.ErrNone, "lost", nil, []string{"rule lost nothing"}},
		{5, api.ErrKind, "mixed", []string{"skip blank x"}, []string{"rule mixed blank"}},
		{6, api.ErrRound, "again", nil, []string{`rule again ("x"?)*`}},
		{6, api.ErrRound, "often", nil, []string{`rule often few+`, `rule few "x"?`}},
		{7, api.ErrRound, "self", nil, []string{"rule self self"}},
		{7, api.ErrRound, "there", nil, []string{"rule into there", "rule there back", "rule back there"}},
	}
}

// joined is the lines of some, in their order, behind a token and a rule that are right; a rule that is wrong only as the first one stands ahead of all.
func joined(all []wrong) []string {
	tokens, rules := []string{"token right x"}, []string{"rule whole right"}
	for _, w := range all {
		tokens = append(tokens, w.tokens...)
		if w.rank == 2 {
			rules = append(slices.Clone(w.rules), rules...)
		} else {
			rules = append(rules, w.rules...)
		}
	}
	return append(tokens, rules...)
}

// placeOf is the last place of a name among lines.
func placeOf(lines []string, name string) int {
	place := -1
	for i, l := range lines {
		if strings.Fields(l)[1] == name {
			place = i
		}
	}
	return place
}

// Of each choice of faults, in both orders, the one whose error stands first in the list is told; of one error's the one at the first place.
func TestCheckTellsTheFirst(t *testing.T) {
	all := wrongs()
	for choice := range 1 << len(all) {
		var some []wrong
		for i, w := range all {
			if choice>>i&1 == 1 {
				some = append(some, w)
			}
		}
		for range 2 {
			slices.Reverse(some)
			lines := joined(some)
			rank, err, at := 9, api.OK, 0
			for _, w := range some {
				if place := placeOf(lines, w.bad); w.rank < rank || w.rank == rank && place < at {
					rank, err, at = w.rank, w.err, place
				}
			}
			g := read(t, lines...)
			if e, place := Check(g); e != err || place != at {
				t.Fatalf("%q: %v at %d, not %v at %d", lines, e, place, err, at)
			}
			some := rank >= 5
			if (Empty(g) != nil) != some || (Alone(g) != nil) != some {
				t.Fatalf("%q: Empty tells %v, Alone %v", lines, Empty(g), Alone(g))
			}
		}
	}
}

// An error that stands behind another one in the list is not told, though it lies at an earlier place.
func TestCheckPassesOverEarlierPlaces(t *testing.T) {
	hold(t, []told{
		{`token e x*; rule a n; rule a "x"`, api.ErrTwice, 2},
		{`token e x*; rule _a "x"`, api.ErrName, 1},
		{`rule _a n; rule a "x"; rule a "x"`, api.ErrTwice, 2},
		{`skip s x; rule a s; rule b n`, api.ErrNone, 2},
		{`rule a ("x"?)*; rule b n`, api.ErrNone, 1},
		{`rule a a; rule b n`, api.ErrNone, 1},
		{`skip s x; rule a ("x"?)*; rule b s`, api.ErrKind, 2},
		{`skip s x; rule a a; rule b s`, api.ErrKind, 2},
		{`rule a a; rule b ("x"?)*`, api.ErrRound, 1},
		{`rule a b | c*; rule b a; rule c "x"?; rule d c+`, api.ErrRound, 0},
		{`rule a b; rule b a; rule c "x"?; rule d c+`, api.ErrRound, 3},
	})
}

func TestCheckAtLimits(t *testing.T) {
	var tokens, rules []string
	for i := range 64 {
		tokens = append(tokens, fmt.Sprintf("token t%d x", i))
		rules = append(rules, fmt.Sprintf("rule r%d r%d", i, i+1))
	}
	lines := append(tokens, rules...)
	for _, c := range []struct {
		last  string
		err   api.Errno
		place int
		empty bool
	}{
		{"t63", api.OK, 0, false},
		{`"x"?`, api.OK, 0, true},
		{"r64", api.ErrNone, 127, false},
		{"r63", api.ErrRound, 127, false},
		{"r0", api.ErrRound, 64, false},
		{"r40 | ", api.ErrRound, 104, true},
		{"r0*", api.ErrRound, 127, true},
		{`(r0 "x")*`, api.OK, 0, true},
	} {
		lines[127] = "rule r63 " + c.last
		g := read(t, lines...)
		if err, place := Check(g); err != c.err || place != c.place {
			t.Errorf("%s at the end: %v at %d, not %v at %d", c.last, err, place, c.err, c.place)
		}
		empty, alone := Empty(g), Alone(g)
		if c.err == api.ErrNone {
			if empty != nil || alone != nil {
				t.Errorf("%s at the end: something is told", c.last)
			}
			continue
		}
		if !slices.Equal(empty, slices.Repeat([]bool{c.empty}, 64)) {
			t.Errorf("%s at the end: Empty tells %v", c.last, empty)
		}
		for i := range 63 {
			if !slices.Equal(alone[i], []int{i + 1}) {
				t.Errorf("%s at the end: rule %d can be %v alone", c.last, i, alone[i])
			}
		}
	}
}

// The greatest body: 399 parts side by side.
func TestCheckOfGreatBody(t *testing.T) {
	subs := slices.Repeat([]api.Gx{named("b")}, 398)
	g := api.Gram{Name: "g", Rules: []api.Rule{{Name: "a", Body: api.Gx{Op: api.GxCat, Subs: subs}}, {Name: "b", Body: api.Gx{Op: api.GxCat}}}}
	if err, place := Check(g); err != api.OK || place != 0 {
		t.Errorf("%v at %d", err, place)
	}
	if !slices.Equal(Empty(g), []bool{true, true}) || !slices.EqualFunc(Alone(g), [][]int{{1}, nil}, slices.Equal) {
		t.Errorf("Empty tells %v, Alone %v", Empty(g), Alone(g))
	}
	subs[397].Name = "a"
	if err, place := Check(g); err != api.ErrRound || place != 0 {
		t.Errorf("%v at %d", err, place)
	}
	subs[0] = api.Gx{Op: api.GxLit, Name: "x"}
	if err, place := Check(g); err != api.OK || place != 0 {
		t.Errorf("%v at %d", err, place)
	}
}
