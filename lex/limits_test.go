package lex

import (
	"fmt"
	"math"
	"slices"
	"strings"
	"testing"

	"bramble/api"
	"bramble/sample"
	"bramble/text"
)

// Texts of as many bytes as there may be, and more.
func TestAllOfGreatest(t *testing.T) {
	x := made(t, `token w [a-z]+`, `skip sp \s+`, `rule r "if" w`)
	for _, many := range []int{api.MaxText, api.MaxText + 4, 3 * api.MaxText} {
		for _, c := range []struct {
			part   string
			pieces int
			last   api.Piece
		}{
			{"a", 1, api.Piece{Term: 1, To: many, Seen: many + 1}},
			{"?", 1, api.Piece{Term: -1, To: many, Seen: many}},
			{"a?", many, api.Piece{Term: -1, From: many - 1, To: many, Seen: many}},
			{"?a", many, api.Piece{Term: 1, From: many - 1, To: many, Seen: many + 1}},
			{"if ", 2 * (many / 3), api.Piece{Term: 2, From: many/3*3 - 1, To: many / 3 * 3, Seen: many/3*3 + 1}},
		} {
			s := strings.Repeat(c.part, many/len(c.part))
			l := All(x, s)
			if len(l) != c.pieces || l[len(l)-1] != c.last {
				t.Errorf("%d bytes of %q: %d pieces, the last %v", len(s), c.part, len(l), l[len(l)-1:])
			}
			holdWhole(t, s, l)
		}
	}
}

// A machine that goes along all of the rest from each place on.
func TestAllLooksFarAgainAndAgain(t *testing.T) {
	x := made(t, `token t a*b`, `rule r t`)
	const many = 2000
	s := strings.Repeat("a", many)
	l := All(x, s)
	if shown(l) != fmt.Sprintf("-1:0-%d,0,%d", many, many+1) {
		t.Errorf("%s", shown(l))
	}
	if l, err := Again(x, s, l, api.Edit{At: many, Text: "b"}); err != api.OK || shown(l) != fmt.Sprintf("0:0-%d,0,%d", many+1, many+2) {
		t.Errorf("%s, %v", shown(l), err)
	}
}

// Edits of a text of as many bytes as there may be, one behind another.
func TestAgainOfGreatest(t *testing.T) {
	seed := sample.Seed(136)
	words := made(t, `token w [a-z]+`, `skip sp \s+`, `rule r "if" w`)
	nested := made(t, `scan o `+opens, `scan c `+closes, `token w [a-z]+`, `rule r w`)
	for i, x := range []api.Lexer{words, nested} {
		s := strings.Repeat("if x (y ?) ", api.MaxText/11)
		l := All(x, s)
		for range 15 {
			put := []string{"", "a", "(", ")", "? ?", " if "}[seed.Below(6)]
			e := api.Edit{At: seed.Below(len(s)), Old: seed.Below(8), Text: put}
			if e.Old > len(s)-e.At {
				e.Old = len(s) - e.At
			}
			holdAgain(t, fmt.Sprint("lexer ", i), x, s, l, e)
			if again, err := Again(x, s, l, e); err == api.OK {
				l = again
				s, _ = text.Apply(s, e)
			}
		}
		holdAgain(t, fmt.Sprint("lexer ", i), x, s, l, api.Edit{Old: len(s)})
		holdAgain(t, fmt.Sprint("lexer ", i), x, s, l, api.Edit{Old: len(s), Text: strings.Repeat("(", api.MaxText)})
		holdAgain(t, fmt.Sprint("lexer ", i), x, s, l, api.Edit{Old: len(s), Text: strings.Repeat("(", api.MaxText+1)})
	}
}

// States wrap round at 256, however many tokens there are.
func TestAllWrapsStates(t *testing.T) {
	x := made(t, `scan o `+opens, `scan c `+closes, `rule r o`)
	l := All(x, strings.Repeat("(", 1000)+strings.Repeat(")", 1000))
	for i, p := range l[:1000] {
		if p.State != (i+1)%256 || p.Term != 0 {
			t.Fatalf("piece %d: %v", i, p)
		}
	}
	// 1000 is 232 and three times 256: so many are closed till the state is 0, and all that follow are none.
	if len(l) != 1233 || l[1231] != (api.Piece{Term: 1, From: 1231, To: 1232, Seen: 1232}) || l[1232] != (api.Piece{Term: -1, From: 1232, To: 2000, Seen: 2000}) {
		t.Errorf("%d pieces, %v", len(l), l[min(1231, len(l)):])
	}
}

// A program that has run as long as it may has looked at as many bytes as it took by then.
func TestOneOfFuel(t *testing.T) {
	x := made(t, `scan t char 97 97 2; goto 0; yes`, `token u a`, `rule r t u`)
	for many, want := range map[int][4]int{
		4998: {0, 4998, 3, 4999},
		4999: {0, 4999, 3, 5000},
		5000: {1, 1, 3, 5000},
		9000: {1, 1, 3, 5000},
	} {
		if got := oneAt(x, strings.Repeat("a", many), 0, 3); got != want {
			t.Errorf("%d bytes: %v, not %v", many, got, want)
		}
	}
}

// oddLexers is lexers that no grammar has.
func oddLexers() []api.Lexer {
	far := []int{math.MinInt, -2, -1, 0, 1, 2, 255, 256, 70000, math.MaxInt}
	yes := []api.Ins{{Op: api.InChar, X: 97, Y: 97, Z: 2}, {Op: api.InYes}}
	all := []api.Lexer{
		{},
		{Of: []int{0}, Scans: []int{1}, Skip: []bool{true}},
		{Scans: []int{-1, 0, 1}, Progs: [][]api.Ins{yes}},
		{Scans: []int{-1}, Progs: [][]api.Ins{yes, yes, nil}},
		{Progs: [][]api.Ins{yes}},
		{Scans: []int{0, 1, 2, 3}, Progs: [][]api.Ins{nil, {}, {{}}, {{Op: api.InYes}}}},
		{Scans: []int{0}, Progs: [][]api.Ins{slices.Repeat(yes, 100)}},
	}
	for _, n := range far {
		prog := []api.Ins{{Op: n, X: n, Y: n, Z: n}, {Op: api.InYes}}
		all = append(all,
			api.Lexer{Scans: []int{n, n}, Progs: [][]api.Ins{yes, prog}},
			api.Lexer{Scans: []int{0}, Progs: [][]api.Ins{prog}},
			api.Lexer{Of: far, Dfa: api.Dfa{States: []api.Dstate{{Arcs: []api.Arc{{Lo: 97, Hi: 97, To: 1}}}, {Accept: n}}}},
			// It accepts the empty text, or nothing that there is.
			api.Lexer{Of: far, Dfa: api.Dfa{States: []api.Dstate{{Accept: n}}}},
			api.Lexer{Of: []int{n}, Dfa: api.Dfa{States: []api.Dstate{{Accept: 0, Arcs: []api.Arc{{Lo: n, Hi: 97, To: 0}, {Lo: 98, Hi: n, To: n}}}}}},
			api.Lexer{Of: []int{n}, Dfa: api.Dfa{States: []api.Dstate{{Accept: n, Arcs: []api.Arc{{Lo: 97, Hi: 97, To: n}}}, {Accept: n}, {}}}})
	}
	return all
}

// oddPieces is lists that are no text's pieces.
func oddPieces() [][]api.Piece {
	all := [][]api.Piece{nil, {}, {{}}, make([]api.Piece, 1000)}
	for _, n := range []int{math.MinInt, -70000, -1, 1, 2, 3, 4, 70000, math.MaxInt} {
		p, q := api.Piece{Term: n, From: n, To: n, State: n, Seen: n}, api.Piece{To: n, Seen: -n}
		all = append(all, []api.Piece{p}, []api.Piece{q}, []api.Piece{p, q}, []api.Piece{q, p}, []api.Piece{p, p, q, {Term: 1, To: 2}, p},
			[]api.Piece{{Term: -1, To: 1, Seen: 1}, {From: 1, To: n, Seen: 1}, q})
	}
	return all
}

// 0.1: whatever a call is given, it ends.
func TestOdd(t *testing.T) {
	far := []int{math.MinInt, -256, -1, 0, 1, 2, 3, 4, 255, 256, 70000, math.MaxInt}
	var edits []api.Edit
	for _, at := range far {
		for _, old := range far {
			edits = append(edits, api.Edit{At: at, Old: old}, api.Edit{At: at, Old: old, Text: "ab"})
		}
	}
	lexers := append(oddLexers(), made(t, `token t a`, `scan u `+as, `rule r t`))
	pieces := oddPieces()
	for _, x := range lexers {
		for _, s := range []string{"", "a", "aab", "b\x00a\xff", strings.Repeat("ab", 50)} {
			for _, at := range far {
				for _, state := range far {
					One(x, s, at, state)
				}
			}
			if l := All(x, s); len(l) > len(s) {
				t.Errorf("%v: %d pieces of %d bytes", x, len(l), len(s))
			}
			for _, e := range edits {
				for _, l := range pieces {
					Again(x, s, l, e)
				}
			}
		}
		for _, y := range lexers {
			Same(x, y)
		}
	}
	for _, l := range pieces {
		for _, e := range edits {
			Kept(l, e)
		}
	}
	for _, x := range sample.Endless() {
		Make(api.Gram{Name: "g", Rules: []api.Rule{{Name: "r", Body: x}}})
	}
}
