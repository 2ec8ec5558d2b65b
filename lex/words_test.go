package lex

import (
	"slices"
	"strings"
	"testing"

	"bramble/api"
	"bramble/flat"
	"bramble/gram"
	"bramble/nfa"
	"bramble/rex"
	"bramble/sample"
	"bramble/vm"
)

// byWords is a grammar's terminals as its plain grammar names them: each has a literal's text, or is a token.
type byWords struct {
	literals []string
	tokens   []api.Token
	machines []api.Nfa // of the tokens with an expression, each alone
}

func wordsOf(t *testing.T, g api.Gram) byWords {
	t.Helper()
	f, err := flat.Make(g)
	if err != api.OK {
		t.Fatalf("%s: %v", gram.Print(g), err)
	}
	w := byWords{tokens: g.Tokens}
	for _, name := range f.Terms[:len(f.Terms)-len(g.Tokens)] {
		x, _ := gram.Body(name)
		w.literals = append(w.literals, x.Name)
	}
	for _, token := range g.Tokens {
		if token.Prog != nil {
			continue
		}
		m, err := nfa.Build([]api.Rex{token.Rex})
		if err != api.OK {
			t.Fatalf("%s: %v", gram.Print(g), err)
		}
		w.machines = append(w.machines, m)
	}
	return w
}

// longest is the first terminal with an expression that goes farthest, and how far; -1, 0 is none.
func (w byWords) longest(rest string) (int, int) {
	term, far := -1, 0
	for i, s := range w.literals {
		if strings.HasPrefix(rest, s) && len(s) > far {
			term, far = i, len(s)
		}
	}
	for i, token := range w.tokens {
		if token.Prog != nil {
			continue
		}
		if n, ok := rex.Longest(token.Rex, rest); ok && n > far {
			term, far = len(w.literals)+i, n
		}
	}
	return term, far
}

// mayGoOn tells whether a text is the beginning of one of a terminal with an expression. A machine as it is built of an expression has no state from which it comes to no end.
func (w byWords) mayGoOn(s string) bool {
	if slices.ContainsFunc(w.literals, func(l string) bool { return strings.HasPrefix(l, s) }) {
		return true
	}
	return slices.ContainsFunc(w.machines, func(m api.Nfa) bool {
		in := nfa.Closure(m, []int{0})
		for i := range len(s) {
			in = nfa.Step(m, in, s[i])
		}
		return len(in) > 0
	})
}

// looked is how many bytes of a rest, and its end as one more, must be known to tell that nothing longer fits.
func (w byWords) looked(rest string) int {
	for n := 1; n <= len(rest); n++ {
		if !w.mayGoOn(rest[:n]) {
			return n
		}
	}
	return len(rest) + 1
}

// one is what One is to tell of a place that is there.
func (w byWords) one(s string, at, state int) [4]int {
	state = (state%256 + 256) % 256
	seen := 0
	for i, token := range w.tokens {
		if token.Prog == nil {
			continue
		}
		n, then, looked := vm.Run(token.Prog, s, at, state)
		seen = max(seen, looked)
		if n > 0 {
			return [4]int{len(w.literals) + i, n, then, at + seen}
		}
	}
	term, n := w.longest(s[at:])
	return [4]int{term, n, state, at + max(seen, w.looked(s[at:]))}
}

// all is what All is to tell: of each place a byte or a token, of which those that are none become one with the one ahead.
func (w byWords) all(s string) []api.Piece {
	var l []api.Piece
	state := 0
	for at := 0; at < len(s); {
		o := w.one(s, at, state)
		p := api.Piece{Term: o[0], From: at, To: at + max(o[1], 1), State: o[2], Seen: o[3]}
		at, state = p.To, p.State
		if last := len(l) - 1; last >= 0 && p.Term == -1 && l[last].Term == -1 {
			l[last].To = p.To
			l[last].Seen = max(l[last].Seen, p.Seen)
			continue
		}
		l = append(l, p)
	}
	return l
}

// keptByWords is what Kept is to tell.
func keptByWords(l []api.Piece, at int) int {
	for n := len(l); n > 0; n-- {
		if !slices.ContainsFunc(l[:n], func(p api.Piece) bool { return p.Seen > at }) {
			if l[n-1].Term == -1 {
				return n - 1
			}
			return n
		}
	}
	return 0
}

// drawnRex is the text of an expression that is drawn, over some letters.
func drawnRex(seed *sample.Seed, letters []string, depth int) string {
	if depth == 0 || seed.Below(4) == 0 {
		return letters[seed.Below(len(letters))]
	}
	sub := func() string { return drawnRex(seed, letters, depth-1) }
	switch seed.Below(6) {
	case 0:
		return "(" + sub() + "|" + sub() + ")"
	case 1:
		return "(" + sub() + ")*"
	case 2:
		return "(" + sub() + ")+"
	case 3:
		return "(" + sub() + ")?"
	}
	return sub() + sub()
}

// drawnProg is a program that is drawn: most of its operations take bytes.
func drawnProg(seed *sample.Seed, bytes string) []api.Ins {
	many := 3 + seed.Below(7)
	var p []api.Ins
	for range many {
		c := int(bytes[seed.Below(len(bytes))])
		x := api.Ins{Op: api.InChar, X: c, Y: min(c+seed.Below(2), 255), Z: seed.Below(many + 1)}
		switch seed.Below(12) {
		case 0:
			x = api.Ins{Op: api.InIs, X: seed.Below(3), Z: seed.Below(many + 1)}
		case 1:
			x = api.Ins{Op: api.InSet, X: seed.Below(3)}
		case 2:
			x = api.Ins{Op: api.InAdd, X: 1 + 254*seed.Below(2)}
		case 3:
			x = api.Ins{Op: api.InGoto, Z: seed.Below(many + 1)}
		case 4, 5, 6:
			x = api.Ins{Op: api.InYes}
		case 7:
			x = api.Ins{Op: api.InNo}
		}
		p = append(p, x)
	}
	return p
}

// drawnGram is a right grammar that is drawn, of a few tokens and literals over a, b, ( and ).
func drawnGram(t *testing.T, seed *sample.Seed) api.Gram {
	t.Helper()
	g := read(t, `rule r `)
	for i := range 1 + seed.Below(3) {
		token := api.Token{Name: "t" + string(rune('0'+i)), Skip: seed.Below(3) == 0}
		if seed.Below(2) == 0 {
			token.Prog = drawnProg(seed, "aab()")
		} else {
			token.Rex = expr(t, drawnRex(seed, []string{"a", "b", `\(`, `\)`, "[ab]", "."}, 3))
		}
		if token.Prog != nil || !rex.Empty(token.Rex) {
			g.Tokens = append(g.Tokens, token)
		}
	}
	body := &g.Rules[0].Body
	texts := sample.Texts([]string{"a", "b", "("}, 3)[1:]
	for range 2 * seed.Below(3) {
		body.Subs = append(body.Subs, api.Gx{Op: api.GxLit, Name: texts[seed.Below(len(texts))]})
	}
	return g
}
