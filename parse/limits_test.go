package parse

import (
	"math"
	"strings"
	"testing"

	"bramble/api"
	"bramble/node"
	"bramble/sample"
)

// Texts of as many bytes as there may be, and more.
func TestGreatTexts(t *testing.T) {
	x := made(t, `token w [a-z]+/skip sp \s+/rule r w*`)
	for _, many := range []int{api.MaxText, api.MaxText + 1, 3 * api.MaxText} {
		for _, c := range []struct {
			part  string
			kids  int
			clean bool
		}{{"a", 1, true}, {" ", 0, true}, {"?", 1, false}, {"a ", (many + 1) / 2, false}, {"a?", many, false}} {
			s := strings.Repeat(c.part, many)[:many]
			n := Tree(x, s)
			if len(n.Kids) != c.kids || n.To != many || Clean(x, s) != c.clean || node.Wrong(n) == c.clean {
				t.Errorf("%d bytes of %q: %d kids, to %d, %v", many, c.part, len(n.Kids), n.To, Clean(x, s))
			}
		}
	}
}

// Trees that have more nodes, and go deeper, than chapter 14's.
func TestGreatTrees(t *testing.T) {
	none := strings.Repeat("o ", 60)
	wide := made(t, `rule r s*/rule s t `+none+`/rule t u `+none+`/rule u "x" `+none+`/rule o `)
	deep := made(t, `rule r "x" r=v | "x"`)
	hidden := made(t, `rule r _s/rule _s "x" _t | "x"/rule _t "x" _s | "x"`)
	s := strings.Repeat("x", api.MaxTokens)
	for what, c := range map[string]struct {
		x         api.Lang
		all, high int
	}{
		"many":            {wide, 1 + 40*(3+1+180), 5},
		"deep":            {deep, 80, 41},
		"deep and hidden": {hidden, 41, 2},
	} {
		n := Tree(c.x, s)
		if all, high := node.Count(n); all != c.all || high != c.high {
			t.Errorf("%s: %d nodes, %d within one another", what, all, high)
		}
		holdWords(t, c.x, s)
		holdFollows(t, c.x, s)
		holdWords(t, c.x, s[:39]+"?")
		holdFollows(t, c.x, s[:39]+"?")
	}
}

// A whole that costs just as much as it may, and more.
func TestCosts(t *testing.T) {
	for _, c := range []struct {
		wanted int // in a row, of which none is there
		text   string
		kids   int
	}{
		{40, "", 40},
		{41, "", 0},
		{40, "?", 1},
		{38, "? ? ?", 39},
		{38, "? ? ? ?", 4},
		{13, strings.Repeat("? ", 40), 14},
		{14, strings.Repeat("? ", 40), 40},
	} {
		x := made(t, `skip sp \s/rule r `+strings.Repeat(`"x" `, c.wanted))
		n := Tree(x, c.text)
		if len(n.Kids) != c.kids || (n.Kind == "r") != (c.kids == c.wanted || c.kids == c.wanted+1) {
			t.Errorf("%d, %q: %s", c.wanted, c.text, show(n))
		}
		holdWords(t, x, c.text)
		holdFollows(t, x, c.text)
	}
}

// oddLangs is what Make does not tell: parts of different grammars, and such as no grammar has.
func oddLangs(t *testing.T) []api.Lang {
	t.Helper()
	a, b := made(t, sums), made(t, full)
	all := []api.Lang{{}, {Gram: a.Gram}, {Flat: a.Flat}, {Lexer: a.Lexer}, {Flat: a.Flat, Lexer: b.Lexer}, {Flat: b.Flat, Lexer: a.Lexer}}
	for _, f := range append(sample.OddFlats(), sample.FitFlats()...) {
		all = append(all, api.Lang{Gram: a.Gram, Flat: f, Lexer: a.Lexer})
	}
	for _, n := range []int{math.MinInt, -2, -1, 0, 3, 4, 5, 6, 7, 70000, math.MaxInt} {
		x := roomy(b)
		for i := range x.Lexer.Of {
			x.Lexer.Of[i] = n
		}
		x.Lexer.Scans[0] = n
		y := roomy(x)
		y.Lexer.Skip = nil
		all = append(all, x, y)
	}
	return all
}

// 0.1: whatever a call is given, it ends.
func TestOdd(t *testing.T) {
	langs := oddLangs(t)
	tree := Tree(langs[1], "1+2")
	for i, x := range langs {
		for _, s := range []string{"", "1 + 2", "f?cfa b", "1+1 1", "\x00\xff"} {
			if n := Tree(x, s); n.From != 0 || n.To != len(s) {
				t.Errorf("odd %d: %s", i, show(n))
			}
			Tokens(x, s)
			Clean(x, s)
			Again(x, s, tree, api.Edit{At: 1, Old: 1})
		}
		Kinds(x)
		Same(x, langs[0])
		Same(x, langs[len(langs)-1])
	}
	x := made(t, sums)
	for _, old := range append(sample.EndlessTrees(), api.Node{}, api.Node{From: math.MaxInt, To: math.MinInt}) {
		if n, err := Again(x, "1+2", old, api.Edit{At: 1, Old: 1}); err != api.OK || show(n) != `(sum 0-2 left:(n 0-2))` {
			t.Errorf("%s, %v", show(n), err)
		}
	}
}
