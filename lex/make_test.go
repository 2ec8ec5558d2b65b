package lex

import (
	"fmt"
	"reflect"
	"slices"
	"strings"
	"testing"

	"bramble/api"
	"bramble/check"
	"bramble/dfa"
	"bramble/flat"
	"bramble/gram"
	"bramble/nfa"
	"bramble/rex"
	"bramble/sample"
	"bramble/vm"
)

// isZero tells whether a lexer has nothing at all.
func isZero(x api.Lexer) bool {
	return reflect.DeepEqual(x, api.Lexer{})
}

// machineBy is the machine of expressions, by their texts.
func machineBy(t *testing.T, texts ...string) api.Dfa {
	t.Helper()
	var l []api.Rex
	for _, s := range texts {
		l = append(l, expr(t, s))
	}
	m, err := nfa.Build(l)
	if err != api.OK {
		t.Fatalf("%q: %v", texts, err)
	}
	d, err := dfa.Of(m)
	if err != api.OK {
		t.Fatalf("%q: %v", texts, err)
	}
	return d
}

// progs is programs by their texts.
func progs(t *testing.T, texts ...string) [][]api.Ins {
	t.Helper()
	var l [][]api.Ins
	for _, s := range texts {
		p, f := vm.Parse(s)
		if f.Err != api.OK {
			t.Fatalf("%q: %v", s, f)
		}
		l = append(l, p)
	}
	return l
}

// P13.1: what a lexer has, field by field.
func TestMakeTold(t *testing.T) {
	nothing := api.Dfa{States: []api.Dstate{{Accept: -1}}}
	for _, c := range []struct {
		lines string // with / between
		want  api.Lexer
	}{
		{`rule r `, api.Lexer{Dfa: nothing}},
		{`rule r "a"`, api.Lexer{Dfa: machineBy(t, "a"), Of: []int{0}, Skip: []bool{false}}},
		{`rule r "a" "b" "a" s/rule s "c" "b"`, api.Lexer{Dfa: machineBy(t, "a", "b", "c"), Of: []int{0, 1, 2}, Skip: make([]bool, 3)}},
		{`rule r s "b"/rule s "c" | "+*"`, api.Lexer{Dfa: machineBy(t, "b", "c", `\+\*`), Of: []int{0, 1, 2}, Skip: make([]bool, 3)}},
		{`rule r "\"\\"`, api.Lexer{Dfa: machineBy(t, `"\\`), Of: []int{0}, Skip: []bool{false}}},
		{`token t a+/rule r t`, api.Lexer{Dfa: machineBy(t, "a+"), Of: []int{0}, Skip: []bool{false}}},
		{`token t a+/rule r `, api.Lexer{Dfa: machineBy(t, "a+"), Of: []int{0}, Skip: []bool{false}}},
		{`skip t a+/token u b/rule r "c" u`, api.Lexer{Dfa: machineBy(t, "c", "a+", "b"), Of: []int{0, 1, 2}, Skip: []bool{false, true, false}}},
		{`scan t ` + as + `/rule r t`, api.Lexer{Dfa: nothing, Scans: []int{0}, Progs: progs(t, as), Skip: []bool{false}}},
		{`skipscan t ` + as + `/scan u ` + aab + `/rule r `, api.Lexer{Dfa: nothing, Scans: []int{0, 1}, Progs: progs(t, as, aab), Skip: []bool{true, false}}},
		{`scan t ` + as + `/rule r "a" "b"`, api.Lexer{Dfa: machineBy(t, "a", "b"), Of: []int{0, 1}, Scans: []int{2}, Progs: progs(t, as), Skip: make([]bool, 3)}},
		{`token p a/skipscan q ` + as + `/skip s b+/scan u ` + opens + `/token v é/rule r "x" p "y"`, api.Lexer{
			Dfa: machineBy(t, "x", "y", "a", "b+", "é"), Of: []int{0, 1, 2, 4, 6}, Scans: []int{3, 5},
			Progs: progs(t, as, opens), Skip: []bool{false, false, false, true, true, false, false}}},
	} {
		x, err := Make(read(t, strings.Split(c.lines, "/")...))
		if err != api.OK || !reflect.DeepEqual(x, c.want) {
			t.Errorf("%s: %v, %v, not %v", c.lines, x, err, c.want)
		}
	}
}

// Of terminals that accept the same text the first one is told, wherever it stands.
func TestMakeTellsTheFirst(t *testing.T) {
	for _, c := range []struct {
		lines string
		term  int
	}{
		{`token t a/token u a/rule r t`, 0},
		{`token t a+/token u a/rule r t`, 0},
		{`token t b/token u a/token v [ab]/rule r t`, 1},
		{`skip t a/token u a/rule r u`, 0},
		{`token t a/rule r t "a"`, 0},
		{`token t a/rule r t "b" "a"`, 1},
		{`token t a/rule r "b" t`, 1},
		{`token t b/token u a/rule r "b" t`, 2},
		{`token t ab?/rule r "ab" "b" t "a"`, 2},
	} {
		x := made(t, strings.Split(c.lines, "/")...)
		if term, n, _, _ := One(x, "a", 0, 0); term != c.term || n != 1 {
			t.Errorf("%s: %d, %d bytes, not %d", c.lines, term, n, c.term)
		}
	}
}

// Each error that Check tells is ErrState, whatever is too many beside it.
func TestMakeTellsState(t *testing.T) {
	many := []string{`token many1 (a|b)*a` + strings.Repeat(`(a|b)`, 12), `token many2 ` + strings.Repeat("é", 399)}
	errs := map[api.Errno]int{}
	for _, lines := range []string{
		`rule r "x"/rule r "y"`,
		`token r x/rule r "y"`,
		`rule _r "x"`,
		`token t x*/rule r "x"`,
		`skip t x?/rule r "x"`,
		`rule r none`,
		`skip s x/rule r s`,
		`skipscan s ` + as + `/rule r s`,
		`rule r ("x"?)*`,
		`rule r r`,
		`rule r s/rule s r | "x"`,
	} {
		wrong := strings.Split(lines, "/")
		err, _ := check.Check(read(t, wrong...))
		errs[err]++
		for _, l := range [][]string{wrong, append(slices.Clone(wrong), many...)} {
			if x, err := Make(read(t, l...)); err != api.ErrState || !isZero(x) {
				t.Errorf("%q: %v, %v", l, x, err)
			}
		}
	}
	for _, err := range []api.Errno{api.ErrTwice, api.ErrName, api.ErrEmpty, api.ErrNone, api.ErrKind, api.ErrRound} {
		if errs[err] == 0 {
			t.Errorf("no grammar with %v", err)
		}
	}
}

// What is not fit is ErrState.
func TestMakeOfUnfit(t *testing.T) {
	lit := api.Gx{Op: api.GxLit, Name: "x"}
	rule := []api.Rule{{Name: "r", Body: lit}}
	letter := api.Rex{Op: api.RxSet, Set: []api.Runes{{Lo: 'a', Hi: 'a'}}}
	yes := []api.Ins{{Op: api.InYes}}
	for i, g := range []api.Gram{
		{},
		{Name: "g"},
		{Rules: rule},
		{Name: "g", Rules: []api.Rule{{Name: "r"}}},
		{Name: "g", Rules: []api.Rule{{Name: "r", Body: api.Gx{Op: api.GxLit}}}},
		{Name: "g", Rules: []api.Rule{{Name: "r", Body: api.Gx{Op: api.GxLit, Name: "\xff"}}}},
		{Name: "g", Rules: []api.Rule{{Name: "r", Body: api.Gx{Op: api.GxLit, Name: strings.Repeat("x", 33)}}}},
		{Name: "g", Rules: rule, Tokens: []api.Token{{Name: "t"}}},
		{Name: "g", Rules: rule, Tokens: []api.Token{{Name: "t", Rex: letter, Prog: yes}}},
		{Name: "g", Rules: rule, Tokens: []api.Token{{Name: "t", Rex: api.Rex{Op: api.RxSet}}}},
		{Name: "g", Rules: rule, Tokens: []api.Token{{Name: "t", Prog: []api.Ins{{}}}}},
		{Name: "g", Rules: rule, Tokens: []api.Token{{Name: "t", Prog: slices.Repeat(yes, 65)}}},
		{Name: "g", Rules: rule, Tokens: slices.Repeat([]api.Token{{Name: "t", Rex: letter}}, 65)},
	} {
		if x, err := Make(g); err != api.ErrState || !isZero(x) {
			t.Errorf("unfit %d: %v, %v", i, x, err)
		}
	}
}

// letters is tokens of so many letters a, one behind the other, each in one token.
func letters(sizes ...int) []string {
	lines := []string{`rule r `}
	for i, n := range sizes {
		lines = append(lines, fmt.Sprintf("token t%d %s", i, strings.Repeat("a", n)))
	}
	return lines
}

// A letter a wants two states in many, é three; there is one more. Tokens of a alone are in as many sets as the longest has letters, and one.
func TestMakeCountsStates(t *testing.T) {
	five := []int{399, 399, 399, 399, 399}
	for _, c := range []struct {
		states int
		lines  []string
	}{
		{3991, letters(five...)},
		{3999, letters(append(five, 4)...)},
		{4000, append(letters(append(five, 3)...), "token e é")},
		{4001, letters(append(five, 5)...)},
		{4001, append(letters(append(five, 2)...), "token e éé")},
		{4003, letters(append(five, 6)...)},
		{4789, letters(append(five, 399)...)},
	} {
		g := read(t, c.lines...)
		x, err := Make(g)
		if c.states > 4000 {
			if err != api.ErrMany || !isZero(x) {
				t.Errorf("%d states: %v", c.states, err)
			}
			continue
		}
		if err != api.OK || len(x.Of) != len(g.Tokens) {
			t.Errorf("%d states: %v, %v", c.states, x.Of, err)
		}
	}
}

// Literals count as tokens do.
func TestMakeCountsStatesOfLiterals(t *testing.T) {
	// Each literal begins with as many x as there can be, so that they are in few sets.
	for many, want := range map[int]api.Errno{61: api.OK, 62: api.OK, 63: api.ErrMany, 90: api.ErrMany} {
		var l []string
		for i := range many {
			l = append(l, fmt.Sprintf("%q", strings.Repeat("x", 31)+string(rune('!'+2+i))))
		}
		if x, err := Make(read(t, `rule r `+strings.Join(l, " | "))); err != want || isZero(x) != (want != api.OK) {
			t.Errorf("%d literals of 32 letters: %v, not %v", many, err, want)
		}
	}
}

// A token of so many a and one of so many b are in 1 more sets than they have letters.
func TestMakeCountsSets(t *testing.T) {
	for _, c := range []struct {
		a, b int
		want api.Errno
	}{
		{399, 199, api.OK}, {399, 200, api.OK}, {399, 201, api.ErrMany}, {399, 399, api.ErrMany}, {300, 299, api.OK}, {300, 300, api.ErrMany},
	} {
		x, err := Make(read(t, `token t `+strings.Repeat("a", c.a), `token u `+strings.Repeat("b", c.b), `rule r t u`))
		if err != c.want || isZero(x) != (c.want != api.OK) {
			t.Errorf("%d and %d letters: %v, not %v", c.a, c.b, err, c.want)
		}
	}
	for n, want := range map[int]api.Errno{7: api.OK, 8: api.OK, 9: api.ErrMany, 12: api.ErrMany} {
		// Which of the last letters were a: twice as many sets for each letter more.
		x, err := Make(read(t, `token t (a|b)*a`+strings.Repeat("(a|b)", n), `rule r t`))
		if err != want || isZero(x) != (want != api.OK) {
			t.Errorf("%d letters behind: %v, not %v", n, err, want)
		}
	}
}

// Scanners want no states, however many they are.
func TestMakeOfScannersBesideStates(t *testing.T) {
	lines := letters(399, 399, 399, 399, 399, 4)
	for i := range 58 {
		lines = append(lines, fmt.Sprintf("scan s%d %s", i, as))
	}
	x := made(t, lines...)
	if len(x.Of) != 6 || len(x.Scans) != 58 || len(x.Progs) != 58 || len(x.Skip) != 64 {
		t.Errorf("%d, %d, %d, %d", len(x.Of), len(x.Scans), len(x.Progs), len(x.Skip))
	}
}

// Of drawn grammars the terminals are those of the plain grammar, in its order, each in Of or in Scans.
func TestMakeOfDrawn(t *testing.T) {
	seed := sample.Seed(137)
	for range 1000 {
		g := drawnGram(t, &seed)
		x, err := Make(g)
		f, wrong := flat.Make(g)
		if err != api.OK || wrong != api.OK || len(x.Skip) != len(f.Terms) {
			t.Fatalf("%s: %v, %v, %v", gram.Print(g), x, err, wrong)
		}
		var of, scans []int
		var texts []string
		for term, name := range f.Terms {
			i := slices.IndexFunc(g.Tokens, func(token api.Token) bool { return token.Name == name })
			if i >= 0 && g.Tokens[i].Prog != nil {
				scans = append(scans, term)
				if !slices.Equal(x.Progs[len(scans)-1], g.Tokens[i].Prog) {
					t.Fatalf("%s: %v", gram.Print(g), x.Progs)
				}
			} else {
				of = append(of, term)
				texts = append(texts, textOf(t, g, name))
			}
			if x.Skip[term] != (i >= 0 && g.Tokens[i].Skip) {
				t.Fatalf("%s: %v", gram.Print(g), x.Skip)
			}
		}
		if !slices.Equal(x.Of, of) || !slices.Equal(x.Scans, scans) || len(x.Progs) != len(scans) {
			t.Fatalf("%s: %v, %v, %d programs", gram.Print(g), x.Of, x.Scans, len(x.Progs))
		}
		if len(texts) > 0 && !dfa.Same(x.Dfa, machineBy(t, texts...)) {
			t.Fatalf("%s: %v", gram.Print(g), x.Dfa)
		}
	}
}

// textOf is a terminal's expression as a text: a token's as the grammar has it, a literal's with a backslash ahead of each (.
func textOf(t *testing.T, g api.Gram, name string) string {
	t.Helper()
	for _, token := range g.Tokens {
		if token.Name == name {
			return rex.Print(token.Rex)
		}
	}
	x, f := gram.Body(name)
	if f.Err != api.OK {
		t.Fatalf("%q: %v", name, f)
	}
	return strings.NewReplacer("(", `\(`).Replace(x.Name)
}

// P13.1: Same tells of each field.
func TestSame(t *testing.T) {
	lines := []string{`token p a`, `skipscan q ` + as, `skip s b+`, `scan u ` + opens, `rule r "x" p`}
	a := made(t, lines...)
	if !Same(a, made(t, lines...)) || !Same(api.Lexer{}, api.Lexer{}) {
		t.Error("two that are the same are not")
	}
	empty := api.Lexer{Dfa: api.Dfa{States: []api.Dstate{}}, Of: []int{}, Scans: []int{}, Progs: [][]api.Ins{}, Skip: []bool{}}
	if !Same(api.Lexer{}, empty) || !Same(empty, api.Lexer{}) {
		t.Error("an empty list is not none")
	}
	for what, change := range map[string]func(x *api.Lexer){
		"no Dfa":            func(x *api.Lexer) { x.Dfa = api.Dfa{} },
		"a state more":      func(x *api.Lexer) { x.Dfa.States = append(x.Dfa.States, api.Dstate{}) },
		"another Accept":    func(x *api.Lexer) { x.Dfa.States[1].Accept++ },
		"another arc's To":  func(x *api.Lexer) { x.Dfa.States[0].Arcs[0].To++ },
		"another arc's Lo":  func(x *api.Lexer) { x.Dfa.States[0].Arcs[0].Lo-- },
		"another arc's Hi":  func(x *api.Lexer) { x.Dfa.States[0].Arcs[2].Hi++ },
		"no Of":             func(x *api.Lexer) { x.Of = nil },
		"another Of":        func(x *api.Lexer) { x.Of[1]++ },
		"one more of Of":    func(x *api.Lexer) { x.Of = append(x.Of, 0) },
		"no Scans":          func(x *api.Lexer) { x.Scans = nil },
		"another of Scans":  func(x *api.Lexer) { x.Scans[1]-- },
		"one less of Scans": func(x *api.Lexer) { x.Scans = x.Scans[:1] },
		"no Progs":          func(x *api.Lexer) { x.Progs = nil },
		"one less of Progs": func(x *api.Lexer) { x.Progs = x.Progs[:1] },
		"one more of Progs": func(x *api.Lexer) { x.Progs = append(x.Progs, nil) },
		"another program":   func(x *api.Lexer) { x.Progs[1][1].X++ },
		"another's Op":      func(x *api.Lexer) { x.Progs[0][0].Op++ },
		"another's Y":       func(x *api.Lexer) { x.Progs[0][0].Y++ },
		"another's Z":       func(x *api.Lexer) { x.Progs[0][0].Z++ },
		"a shorter program": func(x *api.Lexer) { x.Progs[1] = x.Progs[1][:3] },
		"programs turned":   func(x *api.Lexer) { slices.Reverse(x.Progs) },
		"no Skip":           func(x *api.Lexer) { x.Skip = nil },
		"another of Skip":   func(x *api.Lexer) { x.Skip[0] = true },
		"the last of Skip":  func(x *api.Lexer) { x.Skip[4] = !x.Skip[4] },
		"one more of Skip":  func(x *api.Lexer) { x.Skip = append(x.Skip, false) },
	} {
		b := made(t, lines...)
		change(&b)
		if Same(a, b) || Same(b, a) || !Same(b, b) {
			t.Errorf("%s: %v, %v, %v", what, Same(a, b), Same(b, a), Same(b, b))
		}
	}
}
