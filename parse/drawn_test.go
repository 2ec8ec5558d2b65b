package parse

import (
	"testing"

	"bramble/api"
	"bramble/node"
	"bramble/sample"
)

// small is grammars whose rules and tokens meet in many ways in texts of a, b, h, + and blanks.
var small = []string{
	`token a a/token b b+/token _h h/skip sp \s+/rule r (f:a | g:_t=v)* "+"?/rule _t b _h`,
	`token a a/token b b/token _h h/skip sp \s/rule r o s o/rule s a o b | _h=v o/rule o `,
	`token a a+/token _h h/skip sp \s/rule r f:_s "b"/rule _s _h g:"+"? | a _s`,
	`token a a/token _b b/token _h h/skip sp \s/rule r s+ | /rule s _b _h | %1 _b | f:(a "+")`,
	`token a a/skip sp \s/skip h h/rule r r "+" r | a | ("b" a?)=v`,
	`token a a/token _h h/skip sp \s/rule r r a | r _h "+"`,
	`token a a/skip sp \s/rule r "a" a "+" a "+" "b"=v`,
}

// count is what was seen of trees.
type count struct{ clean, heaps, missing, rest, nothing, long int }

func (c *count) put(x api.Lang, s string) {
	n := Tree(x, s)
	all := sample.NodesOf(&n)
	switch {
	case len(Tokens(x, s)) > api.MaxTokens:
		c.long++
	case n.Bad == api.BadError:
		c.nothing++
	case Clean(x, s):
		c.clean++
	}
	if last := len(n.Kids) - 1; n.Bad == api.BadNone && last >= 0 && n.Kids[last].Bad == api.BadError {
		c.rest++
	}
	for _, part := range all[1:] {
		switch {
		case part.Bad == api.BadMiss:
			c.missing++
		case part.Bad == api.BadError && len(part.Kids) > 0:
			c.heaps++
		}
	}
}

// hold fails where not each of them was seen so often.
func (c count) hold(t *testing.T, least int) {
	t.Helper()
	if min(c.clean, c.heaps, c.missing, c.rest, c.nothing) < least {
		t.Errorf("%+v", c)
	}
}

// P19.2 to P19.7, P19.9: every small text by some grammars.
func TestEverySmallText(t *testing.T) {
	var c count
	texts := sample.Texts([]string{"a", "b", "h", "+", " "}, 4)
	texts = append(texts, sample.Texts([]string{"a", "b", "h", "+", "?"}, 3)...)
	for _, lines := range small {
		x := made(t, lines)
		for _, s := range texts {
			holdWords(t, x, s)
			holdFollows(t, x, s)
			c.put(x, s)
		}
	}
	c.hold(t, 100)
}

// drawnText is a text of a drawn grammar: of a mended whole of its, or of any terminals.
func drawnText(seed *sample.Seed, x api.Lang) string {
	_, row, ok := sample.Mended(seed, x.Flat, 2+seed.Below(6))
	switch {
	case !ok || seed.Below(4) == 0:
		row = sample.Row(seed, x.Flat, 8)
	case seed.Below(20) == 0:
		row = sample.Row(seed, x.Flat, 90)
	}
	return sample.Spell(seed, x.Flat, row)
}

// P19.2 to P19.9: drawn grammars, with drawn texts and edits.
func TestDrawn(t *testing.T) {
	seed := sample.Seed(191)
	var c count
	fields, aliases, deep := 0, 0, 0
	for range 4000 {
		x, err := Make(sample.Gram(&seed, 4))
		if err != api.OK {
			continue
		}
		for range 4 {
			s := drawnText(&seed, x)
			holdWords(t, x, s)
			holdFollows(t, x, s)
			at := seed.Below(len(s) + 1)
			holdAgain(t, x, s, api.Edit{At: at, Old: seed.Below(len(s) - at + 1), Text: drawnText(&seed, x)})
			c.put(x, s)
			n := Tree(x, s)
			for _, part := range sample.NodesOf(&n) {
				if part.Field != "" {
					fields++
				}
				if part.Kind == "f" || part.Kind == "g" {
					aliases++
				}
			}
			if _, high := node.Count(n); high > 4 {
				deep++
			}
		}
	}
	c.hold(t, 200)
	if min(fields, aliases, deep, c.long) < 20 {
		t.Errorf("%d fields, %d aliases, %d deep trees, %+v", fields, aliases, deep, c)
	}
}
