package lex

import (
	"slices"
	"strings"
	"testing"

	"bramble/api"
	"bramble/gram"
	"bramble/sample"
)

// P13.3: the pieces of a text, edge by edge.
func TestAllTold(t *testing.T) {
	for _, c := range []struct {
		lines string // with / between
		s     string
		want  string
	}{
		// Nothing, and what is none.
		{`rule r "a"`, "", ""},
		{`rule r `, "", ""},
		{`rule r `, "a", "-1:0-1,0,1"},
		{`rule r `, "abc", "-1:0-3,0,3"},
		{`rule r "a"`, "bb", "-1:0-2,0,2"},
		{`rule r "a"`, "bba", "-1:0-2,0,2 0:2-3,0,4"},
		{`rule r "a"`, "abb", "0:0-1,0,2 -1:1-3,0,3"},
		{`rule r "a"`, "abba", "0:0-1,0,2 -1:1-3,0,3 0:3-4,0,5"},
		{`rule r "a"`, "babab", "-1:0-1,0,1 0:1-2,0,3 -1:2-3,0,3 0:3-4,0,5 -1:4-5,0,5"},
		{`rule r "a"`, "aa", "0:0-1,0,2 0:1-2,0,3"},
		{`rule r "a"`, "\x00\xff", "-1:0-2,0,2"},
		{`token t é/rule r t`, "éé\xc3\xa9\xa9\xc3", "0:0-2,0,3 0:2-4,0,5 0:4-6,0,7 -1:6-8,0,9"},
		// What looks farther than the next one: Seen of each is its own, of bytes that are none the greatest.
		{`token t a(c*b)?/rule r t "c"`, "accc", "1:0-1,0,5 0:1-2,0,3 0:2-3,0,4 0:3-4,0,5"},
		{`token t a(c*b)?/rule r t "c"`, "accd", "1:0-1,0,4 0:1-2,0,3 0:2-3,0,4 -1:3-4,0,4"},
		{`token t a(cc*b)/rule r t`, "accd", "-1:0-4,0,4"},
		{`token t acc*b/rule r t "d"`, "accd", "-1:0-3,0,4 0:3-4,0,5"},
		{`token t acccb/rule r t`, "xaccx", "-1:0-5,0,5"},
		{`token t acccb/rule r t`, "xaccxx", "-1:0-6,0,6"},
		{`token t acccb/rule r t`, "acccdd", "-1:0-6,0,6"},
		{`token t acccb/rule r t "d"`, "accc", "-1:0-4,0,5"},
		{`token t acccb/rule r t "d"`, "acdc", "-1:0-2,0,3 0:2-3,0,4 -1:3-4,0,4"},
		{`token t acccd?b/rule r t "cd"`, "acccdd", "-1:0-3,0,6 0:3-5,0,6 -1:5-6,0,6"},
		// Scanners, and states that go on behind a piece, also behind bytes that are none and tokens of the machine.
		{`scan t ` + as + `/rule r t`, "aab", "0:0-2,0,3 -1:2-3,0,3"},
		{`scan t ` + early + `/rule r t`, "aab", "0:0-1,0,1 0:1-2,0,2 -1:2-3,0,3"},
		{`scan t ` + opens + `/scan u ` + closes + `/rule r t u`, "(())", "0:0-1,1,1 0:1-2,2,2 1:2-3,1,3 1:3-4,0,4"},
		{`scan t ` + opens + `/scan u ` + closes + `/rule r t u`, ")())", "-1:0-1,0,1 0:1-2,1,2 1:2-3,0,3 -1:3-4,0,4"},
		{`scan t ` + opens + `/scan u ` + closes + `/rule r t u`, "(xx)", "0:0-1,1,1 -1:1-3,1,3 1:3-4,0,4"},
		{`scan t ` + opens + `/scan u ` + closes + `/token v x+/rule r t u`, "(xx)x", "0:0-1,1,1 2:1-3,1,4 1:3-4,0,4 2:4-5,0,6"},
		{`scan t ` + opens + `/scan u ` + closes + `/rule r t u ")"`, "())", "1:0-1,1,1 2:1-2,0,2 0:2-3,0,4"},
		{`scan t ` + turns + `/scan u is 7 3; char 97 122 3; yes; no/token v [a-z]+/rule r t`, "ab!ab!ab", "2:0-2,0,3 0:2-3,7,3 1:3-4,7,4 1:4-5,7,5 0:5-6,0,6 2:6-8,0,9"},
		{`scan t ` + turns + `/rule r t`, "?!?!?", "-1:0-1,0,1 0:1-2,7,2 -1:2-3,7,3 0:3-4,0,4 -1:4-5,0,5"},
		{`scan t ` + curious + `/rule r t`, "xbbx", "-1:0-4,0,4"},
		{`scan t ` + curious + `/rule r "b"`, "abbb", "-1:0-1,0,1 0:1-2,0,4 0:2-3,0,5 0:3-4,0,5"},
		{`scan t ` + curious + `/rule r `, "bb", "-1:0-2,0,3"},
		{`scan t ` + curious + `/rule r "a"`, "bba", "-1:0-2,0,3 0:2-3,0,4"},
		// Tokens that stand between others are pieces as any.
		{`skip s \s+/token w [a-z]+/rule r w`, " a  b ", "0:0-1,0,2 1:1-2,0,3 0:2-4,0,5 1:4-5,0,6 0:5-6,0,7"},
		// What the longest one takes away.
		{`rule r "a" "ab" "bc"`, "abc", "1:0-2,0,3 -1:2-3,0,3"},
		{`rule r "a" "abcd" "bc"`, "abca", "0:0-1,0,4 2:1-3,0,4 0:3-4,0,5"},
	} {
		x := made(t, strings.Split(c.lines, "/")...)
		l := All(x, c.s)
		if got := shown(l); got != c.want {
			t.Errorf("%s, %q: %s, not %s", c.lines, c.s, got, c.want)
		}
		if c.s == "" && l != nil {
			t.Errorf("%s: nothing has a list", c.lines)
		}
	}
}

// holdAll fails where All tells otherwise than the chapter's words, or what follows does not hold (P13.6).
func holdAll(t *testing.T, g api.Gram, texts []string) {
	t.Helper()
	x, err := Make(g)
	if err != api.OK {
		t.Fatalf("%s: %v", gram.Print(g), err)
	}
	w := wordsOf(t, g)
	for _, s := range texts {
		l := All(x, s)
		if want := w.all(s); !slices.Equal(l, want) {
			t.Fatalf("%s of %q: %s, not %s", gram.Print(g), s, shown(l), shown(want))
		}
		holdWhole(t, s, l)
	}
}

// holdWhole fails where pieces do not stand one behind the other, from 0 to the text's end, or one is empty, or two that are none stand side by side.
func holdWhole(t *testing.T, s string, l []api.Piece) {
	t.Helper()
	at, bad := 0, false
	for _, p := range l {
		if p.From != at || p.To <= p.From || p.Seen < p.To || p.Seen > len(s)+1 || bad && p.Term == -1 {
			t.Fatalf("%.40q: %s", s, shown(l))
		}
		at, bad = p.To, p.Term == -1
	}
	if at != len(s) {
		t.Fatalf("%.40q: up to %d", s, at)
	}
}

func TestAllOfAllSmall(t *testing.T) {
	texts := sample.Texts([]string{"a", "b", "(", ")"}, 5)
	for _, g := range grammars(t) {
		holdAll(t, g, texts)
	}
}

func TestAllOfDrawn(t *testing.T) {
	seed := sample.Seed(133)
	parts := []string{"a", "b", "(", ")", "aab", "(a", "é", "\x00", "\xff"}
	for range 300 {
		g := drawnGram(t, &seed)
		var texts []string
		for range 6 {
			s := ""
			for range seed.Below(20) {
				s += parts[seed.Below(len(parts))]
			}
			texts = append(texts, s)
		}
		holdAll(t, g, texts)
	}
}
