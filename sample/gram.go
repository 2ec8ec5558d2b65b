package sample

import (
	"strings"

	"bramble/api"
)

// Gram is a grammar that is drawn: tokens a, b (one b or more) and _h (an h), blanks that are skipped, and rules r, s and _t, of which few are right where they are deep.
func Gram(seed *Seed, deep int) api.Gram {
	g := api.Gram{Name: "drawn", Tokens: []api.Token{
		{Name: "a", Rex: letter('a')},
		{Name: "b", Rex: api.Rex{Op: api.RxPlus, Subs: []api.Rex{letter('b')}}},
		{Name: "_h", Rex: letter('h')},
		{Name: "sp", Rex: letter(' '), Skip: true},
	}}
	leaf := func() api.Gx {
		switch n := seed.Below(12); n {
		case 0, 1:
			return api.Gx{Op: api.GxLit, Name: []string{"x", "+"}[n]}
		case 2:
			return api.Gx{Op: api.GxCat}
		default:
			return api.Gx{Op: api.GxName, Name: []string{"a", "a", "b", "_h", "s", "s", "_t", "_t", "r"}[n-3]}
		}
	}
	for _, name := range []string{"r", "s", "_t"} {
		g.Rules = append(g.Rules, api.Rule{Name: name, Body: Part(seed, 1+seed.Below(deep), leaf)})
	}
	return g
}

func letter(c int) api.Rex {
	return api.Rex{Op: api.RxSet, Set: []api.Runes{{Lo: c, Hi: c}}}
}

// Spell is a text of a row of a drawn grammar's terminals, with blanks here and there: a literal is itself, a token its name's last letter, and what is no terminal a ?.
func Spell(seed *Seed, f api.Flat, row []int) string {
	var out strings.Builder
	for _, term := range row {
		name := "?"
		if term >= 0 && term < len(f.Terms) {
			name = strings.Trim(f.Terms[term], "_\"")
		}
		if name == "sp" {
			name = " "
		}
		out.WriteString(name + strings.Repeat(" ", max(0, seed.Below(4)-1)))
	}
	return out.String()
}
