package lex

import (
	"fmt"
	"reflect"
	"slices"
	"testing"

	"bramble/api"
	"bramble/sample"
)

// full is a grammar with tokens and literals of all kinds.
func full(t *testing.T) api.Gram {
	t.Helper()
	return read(t, `token p a`, `skipscan q `+aab, `skip s (b|[c-eg])+`, `scan u `+opens, `scan v `+closes, `token w [a-z]|é`, `rule r "x" p | w "if" r?`)
}

// roomyRex is an expression in memory of its own, with room behind its lists.
func roomyRex(x api.Rex) api.Rex {
	subs := make([]api.Rex, 0, len(x.Subs)+2)
	for _, sub := range x.Subs {
		subs = append(subs, roomyRex(sub))
	}
	return api.Rex{Op: x.Op, Set: sample.RoomyList(x.Set), Subs: subs}
}

// roomyGram is a grammar in memory of its own, with room behind its lists; a list that is none stays so.
func roomyGram(g api.Gram) api.Gram {
	tokens := make([]api.Token, 0, len(g.Tokens)+2)
	for _, token := range g.Tokens {
		if token.Prog != nil {
			token.Prog = sample.RoomyList(token.Prog)
		} else {
			token.Rex = roomyRex(token.Rex)
		}
		tokens = append(tokens, token)
	}
	rules := make([]api.Rule, 0, len(g.Rules)+2)
	for _, r := range g.Rules {
		rules = append(rules, api.Rule{Name: r.Name, Body: sample.Roomy(r.Body)})
	}
	g.Tokens, g.Rules = tokens, rules
	return g
}

// roomyLexer is a lexer in memory of its own, with room behind its lists.
func roomyLexer(x api.Lexer) api.Lexer {
	var dstates []api.Dstate
	for _, d := range x.Dfa.States {
		dstates = append(dstates, api.Dstate{Arcs: sample.RoomyList(d.Arcs), Accept: d.Accept})
	}
	var all [][]api.Ins
	for _, p := range x.Progs {
		all = append(all, sample.RoomyList(p))
	}
	return api.Lexer{Dfa: api.Dfa{States: sample.RoomyList(dstates)}, Of: sample.RoomyList(x.Of), Scans: sample.RoomyList(x.Scans), Progs: sample.RoomyList(all), Skip: sample.RoomyList(x.Skip)}
}

// wholeList is all that a list has, and what lies behind it.
func wholeList[T any](l []T) string {
	return fmt.Sprintf("%d %#v;", len(l), l[:cap(l)])
}

// wholeRex is all that an expression has, and what lies behind its lists.
func wholeRex(x api.Rex) string {
	s := fmt.Sprint(x.Op) + wholeList(x.Set) + wholeList(x.Subs)
	for _, sub := range x.Subs {
		s += wholeRex(sub)
	}
	return s
}

// wholeGram is all that a grammar has, and what lies behind its lists.
func wholeGram(g api.Gram) string {
	s := g.Name + wholeList(g.Tokens) + wholeList(g.Rules)
	for _, token := range g.Tokens {
		s += wholeRex(token.Rex) + wholeList(token.Prog)
	}
	for _, r := range g.Rules {
		s += fmt.Sprintf("%#v %v", r.Body, sample.RoomStays(r.Body))
	}
	return s
}

// wholeLexer is all that a lexer has, and what lies behind its lists.
func wholeLexer(x api.Lexer) string {
	s := wholeList(x.Dfa.States) + wholeList(x.Of) + wholeList(x.Scans) + wholeList(x.Progs) + wholeList(x.Skip)
	for _, d := range x.Dfa.States {
		s += wholeList(d.Arcs)
	}
	for _, p := range x.Progs {
		s += wholeList(p)
	}
	return s
}

// 0.5: what a call is given is as it was, and so is what lies behind it.
func TestArgumentsStay(t *testing.T) {
	for _, given := range append(grammars(t), full(t), read(t, `rule _r "x"`), read(t, `token t a*`, `rule r t`)) {
		g := roomyGram(given)
		was := wholeGram(g)
		made, err := Make(g)
		if wholeGram(g) != was {
			t.Errorf("a grammar has changed: %s, not %s", wholeGram(g), was)
		}
		if err != api.OK {
			continue
		}
		x, y := roomyLexer(made), roomyLexer(made)
		was = wholeLexer(x)
		for _, s := range []string{"", "aab", "(ab)x??if", "((a))?)"} {
			l := sample.RoomyList(All(x, s))
			pieces := wholeList(l)
			for at := range len(s) + 1 {
				One(x, s, at, 1)
				for old := range len(s) + 1 {
					for _, put := range []string{"", "a", "(a"} {
						e := api.Edit{At: at, Old: old, Text: put}
						Kept(l, e)
						Again(x, s, l, e)
					}
				}
			}
			if wholeList(l) != pieces {
				t.Errorf("%q: the pieces have changed: %s, not %s", s, wholeList(l), pieces)
			}
		}
		Same(x, y)
		if wholeLexer(x) != was || wholeLexer(y) != was {
			t.Errorf("a lexer has changed: %s, %s, not %s", wholeLexer(x), wholeLexer(y), was)
		}
	}
}

// spoil writes over a list, and behind it.
func spoil[T any](l []T, with T) {
	l = l[:cap(l)]
	for i := range l {
		l[i] = with
	}
}

// spoilLexer writes over all lists of a lexer.
func spoilLexer(x api.Lexer) {
	for _, d := range x.Dfa.States {
		spoil(d.Arcs, api.Arc{Lo: 77, Hi: 77, To: 77})
	}
	for _, p := range x.Progs {
		spoil(p, api.Ins{Op: 77})
	}
	spoil(x.Dfa.States, api.Dstate{Accept: 77})
	spoil(x.Progs, nil)
	spoil(x.Of, 77)
	spoil(x.Scans, 77)
	spoil(x.Skip, true)
}

// numbersOf is where the numbers of a lexer lie.
func numbersOf(x api.Lexer) []*int {
	var all []*int
	for i := range x.Of {
		all = append(all, &x.Of[i])
	}
	for i := range x.Scans {
		all = append(all, &x.Scans[i])
	}
	for i := range x.Dfa.States {
		all = append(all, &x.Dfa.States[i].Accept)
		for j := range x.Dfa.States[i].Arcs {
			all = append(all, &x.Dfa.States[i].Arcs[j].To)
		}
	}
	for i := range x.Progs {
		for j := range x.Progs[i] {
			all = append(all, &x.Progs[i][j].Z)
		}
	}
	return all
}

// holdApart fails where two lists of a lexer share memory.
func holdApart(t *testing.T, x api.Lexer) {
	t.Helper()
	was := fmt.Sprint(x)
	for _, d := range x.Dfa.States {
		_ = append(d.Arcs, api.Arc{Lo: 77})
	}
	for _, p := range x.Progs {
		_ = append(p, api.Ins{Op: 77})
	}
	_ = append(x.Of, 77)
	_ = append(x.Scans, 77)
	if after := fmt.Sprint(x); after != was {
		t.Errorf("%s, not %s", after, was)
	}
	numbers := numbersOf(x)
	for i, n := range numbers {
		*n = 1000 + i
	}
	for i, n := range numbers {
		if *n != 1000+i {
			t.Fatal("two numbers share their memory")
		}
	}
}

// What was told once may be written over: nothing that was given, or is told later, changes.
func TestAnswersShareNothing(t *testing.T) {
	g := full(t)
	was := wholeGram(g)
	want, _ := Make(g)
	for range 2 {
		x, _ := Make(g)
		holdApart(t, x)
		spoilLexer(x)
	}
	if x, err := Make(g); err != api.OK || !Same(x, want) || wholeGram(g) != was {
		t.Errorf("%v, %v, not %v", x, err, want)
	}
	const s = "if (aab) ?x(é)"
	l := All(want, s)
	before := shown(l)
	spoil(All(want, s), api.Piece{Term: 77})
	for at := range len(s) + 1 {
		for _, e := range []api.Edit{{At: at}, {At: at, Text: "x"}, {At: at, Old: len(s) - at}} {
			told, err := Again(want, s, l, e)
			if err != api.OK {
				t.Fatalf("%v: %v", e, err)
			}
			spoil(told, api.Piece{Term: 77})
			if after := shown(l); after != before {
				t.Fatalf("%v: what was given is %s, not %s", e, after, before)
			}
		}
	}
	if after := shown(All(want, s)); after != before {
		t.Errorf("%s, not %s", after, before)
	}
}

// What was given may be written over: nothing that was told changes.
func TestAnswersKeepNothing(t *testing.T) {
	g := roomyGram(full(t))
	want, _ := Make(full(t))
	x, _ := Make(g)
	for _, token := range g.Tokens {
		spoil(token.Prog, api.Ins{Op: 77})
		spoil(token.Rex.Set, api.Runes{Lo: 77, Hi: 77})
		spoil(token.Rex.Subs, api.Rex{Op: 77})
	}
	spoil(g.Tokens, api.Token{Name: "gone"})
	spoil(g.Rules, api.Rule{Name: "gone"})
	if !reflect.DeepEqual(x, want) {
		t.Errorf("%v, not %v", x, want)
	}
	const s = "if (aab) ?x(é)"
	for at := range len(s) + 1 {
		l := All(x, s)
		e := api.Edit{At: at, Text: "if"}
		told, _ := Again(x, s, l, e)
		before := slices.Clone(told)
		spoil(l, api.Piece{Term: 77})
		if !slices.Equal(told, before) {
			t.Errorf("at %d: %s, not %s", at, shown(told), shown(before))
		}
	}
	told := All(x, s)
	before := slices.Clone(told)
	spoilLexer(x)
	if !slices.Equal(told, before) {
		t.Errorf("%s, not %s", shown(told), shown(before))
	}
}
