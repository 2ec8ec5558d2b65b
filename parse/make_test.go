package parse

import (
	"reflect"
	"strings"
	"testing"

	"bramble/api"
	"bramble/check"
	"bramble/flat"
	"bramble/gram"
	"bramble/lex"
	"bramble/sample"
)

// What is too much for a layer below.
var (
	wide   = `rule wide ` + strings.Repeat(`"x" `, 65)            // items
	states = `token states (a|b)*a` + strings.Repeat(`(a|b)`, 12) // states of a machine
)

// full is a grammar with tokens and parts of all kinds.
const full = `token n [0-9]+|(a|[b-d]*e)?f/skip sp \s+/scan _h char 104 104 3; goto 0; no; yes/skipscan u is 0 2; yes; no/` +
	`rule r left:n ("+" n)* | %2 _t=v (s _h)+/rule s ("a" "b"?)=w | /rule _t f:(g:"c" _h) n`

// P19.1: what is made, field by field.
func TestMake(t *testing.T) {
	for _, lines := range []string{sums, pairs, full, `rule r `} {
		g := read(t, lines)
		x, err := Make(g)
		f, _ := flat.Make(g)
		l, _ := lex.Make(g)
		if want := (api.Lang{Gram: g, Flat: f, Lexer: l}); err != api.OK || !reflect.DeepEqual(x, want) {
			t.Errorf("%s: %v, %v, not %v", lines, x, err, want)
		}
	}
}

// holdRefused fails where a grammar is made ready, or something stands beside the error.
func holdRefused(t *testing.T, what string, g api.Gram, want api.Errno) {
	t.Helper()
	if x, err := Make(g); err != want || !reflect.DeepEqual(x, api.Lang{}) {
		t.Errorf("%s: %v, %v, not %v", what, x, err, want)
	}
}

// P19.1: flat.Make's error, then lex.Make's.
func TestMakeRefuses(t *testing.T) {
	for _, c := range []struct {
		lines string
		flat  api.Errno
		lex   api.Errno
		want  api.Errno
	}{
		{`rule r "x"/` + wide, api.ErrMany, api.OK, api.ErrMany},
		{`rule r "x"/` + states, api.OK, api.ErrMany, api.ErrMany},
		{`rule r "x"/` + wide + "/" + states, api.ErrMany, api.ErrMany, api.ErrMany},
		{`rule r r`, api.ErrState, api.ErrState, api.ErrState},
		{`rule r r/` + wide, api.ErrState, api.ErrState, api.ErrState},
		{`rule r r/` + states, api.ErrState, api.ErrState, api.ErrState},
		{`rule r "x"/rule r "y"`, api.ErrState, api.ErrState, api.ErrState},
		{`token r x/rule r "y"`, api.ErrState, api.ErrState, api.ErrState},
		{`rule _r "x"`, api.ErrState, api.ErrState, api.ErrState},
		{`token t x*/rule r t`, api.ErrState, api.ErrState, api.ErrState},
		{`rule r none`, api.ErrState, api.ErrState, api.ErrState},
		{`skip s x/rule r s`, api.ErrState, api.ErrState, api.ErrState},
		{`rule r ("x"?)*`, api.ErrState, api.ErrState, api.ErrState},
	} {
		g := read(t, c.lines)
		if _, err := flat.Make(g); err != c.flat {
			t.Errorf("%s: flat.Make tells %v", c.lines, err)
		}
		if _, err := lex.Make(g); err != c.lex {
			t.Errorf("%s: lex.Make tells %v", c.lines, err)
		}
		holdRefused(t, c.lines, g, c.want)
	}
}

// What is not fit, and what has no end.
func TestMakeOfUnfit(t *testing.T) {
	holdRefused(t, "nothing", api.Gram{}, api.ErrState)
	holdRefused(t, "no rule", api.Gram{Name: "g"}, api.ErrState)
	holdRefused(t, "no body", api.Gram{Name: "g", Rules: []api.Rule{{Name: "r"}}}, api.ErrState)
	g := read(t, sums)
	g.Tokens[0].Prog = []api.Ins{{Op: api.InYes}}
	holdRefused(t, "a token with an expression and a program", g, api.ErrState)
	for _, x := range sample.Endless() {
		g := read(t, sums)
		g.Rules[0].Body = x
		holdRefused(t, "a body without end", g, api.ErrState)
	}
}

// Drawn grammars: Make tells of each what the layers below tell.
func TestMakeOfDrawn(t *testing.T) {
	seed := sample.Seed(190)
	errs := map[api.Errno]int{}
	for range 3000 {
		g := sample.Gram(&seed, 4)
		f, want := flat.Make(g)
		l, err := lex.Make(g)
		if want == api.OK {
			want = err
		}
		x, err := Make(g)
		made := api.Lang{Gram: g, Flat: f, Lexer: l}
		if want != api.OK {
			made = api.Lang{}
		}
		if err != want || !reflect.DeepEqual(x, made) {
			t.Fatalf("%s: %v, %v, not %v", gram.Print(g), x, err, want)
		}
		wrong, _ := check.Check(g)
		errs[wrong]++
	}
	if errs[api.OK] < 300 || errs[api.ErrRound] < 300 {
		t.Errorf("%v", errs)
	}
}

// P19.1: Same tells of each field.
func TestSame(t *testing.T) {
	a := made(t, full)
	if !Same(a, made(t, full)) || !Same(api.Lang{}, api.Lang{}) {
		t.Error("two that are the same are not")
	}
	empty := api.Lang{
		Gram:  api.Gram{Tokens: []api.Token{}, Rules: []api.Rule{}},
		Flat:  api.Flat{Terms: []string{}, Nons: []string{}, Prods: []api.Prod{}},
		Lexer: api.Lexer{Of: []int{}, Skip: []bool{}},
	}
	if !Same(api.Lang{}, empty) || !Same(empty, api.Lang{}) {
		t.Error("an empty list is not none")
	}
	for what, change := range map[string]func(x *api.Lang){
		"no Gram":                 func(x *api.Lang) { x.Gram = api.Gram{} },
		"another name":            func(x *api.Lang) { x.Gram.Name = "h" },
		"another token's name":    func(x *api.Lang) { x.Gram.Tokens[1].Name = "sq" },
		"another token's Skip":    func(x *api.Lang) { x.Gram.Tokens[0].Skip = true },
		"another expression":      func(x *api.Lang) { x.Gram.Tokens[0].Rex.Subs[0].Subs[0].Set[0].Hi-- },
		"another program":         func(x *api.Lang) { x.Gram.Tokens[2].Prog[0].X-- },
		"another rule's name":     func(x *api.Lang) { x.Gram.Rules[2].Name = "_u" },
		"another part":            func(x *api.Lang) { x.Gram.Rules[0].Body.Subs[1].Num++ },
		"a rule less":             func(x *api.Lang) { x.Gram.Rules = x.Gram.Rules[:2] },
		"no Flat":                 func(x *api.Lang) { x.Flat = api.Flat{} },
		"another of Terms":        func(x *api.Lang) { x.Flat.Terms[0] = "x" },
		"another of Nons":         func(x *api.Lang) { x.Flat.Nons[0] = "x" },
		"another of Prods' Left":  func(x *api.Lang) { x.Flat.Prods[0].Left++ },
		"another of Prods' Prec":  func(x *api.Lang) { x.Flat.Prods[0].Prec++ },
		"another item's Sym":      func(x *api.Lang) { x.Flat.Prods[0].Right[0].Sym++ },
		"another item's Field":    func(x *api.Lang) { x.Flat.Prods[0].Right[0].Field = "x" },
		"another item's Alias":    func(x *api.Lang) { x.Flat.Prods[0].Right[0].Alias = "x" },
		"no Lexer":                func(x *api.Lang) { x.Lexer = api.Lexer{} },
		"another of Of":           func(x *api.Lang) { x.Lexer.Of[0]++ },
		"another of Skip":         func(x *api.Lang) { x.Lexer.Skip[0] = true },
		"another of Scans":        func(x *api.Lang) { x.Lexer.Scans[0]++ },
		"another state":           func(x *api.Lang) { x.Lexer.Dfa.States[0].Accept++ },
		"another lexer's program": func(x *api.Lang) { x.Lexer.Progs[0][0].X++ },
	} {
		b := made(t, full)
		change(&b)
		if Same(a, b) || Same(b, a) || !Same(b, b) {
			t.Errorf("%s: %v, %v, %v", what, Same(a, b), Same(b, a), Same(b, b))
		}
	}
}
