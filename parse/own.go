package parse

import (
	"slices"

	"bramble/api"
)

// own is a list in memory of its own, and so is each part of it.
func own[T any](l []T, part func(T) T) []T {
	l = slices.Clone(l)
	for i, x := range l {
		l[i] = part(x)
	}
	return l
}

// ownGram is a grammar in memory of its own: it must end, as one does of which something was made.
func ownGram(g api.Gram) api.Gram {
	g.Tokens = own(g.Tokens, ownToken)
	g.Rules = own(g.Rules, ownRule)
	return g
}

func ownToken(t api.Token) api.Token {
	t.Rex = ownRex(t.Rex)
	t.Prog = slices.Clone(t.Prog)
	return t
}

func ownRex(x api.Rex) api.Rex {
	x.Set = slices.Clone(x.Set)
	x.Subs = own(x.Subs, ownRex)
	return x
}

func ownRule(r api.Rule) api.Rule {
	r.Body = ownBody(r.Body)
	return r
}

func ownBody(x api.Gx) api.Gx {
	x.Subs = own(x.Subs, ownBody)
	return x
}
