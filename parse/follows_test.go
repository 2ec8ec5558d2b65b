package parse

import (
	"slices"
	"strings"
	"testing"

	"bramble/api"
	"bramble/node"
)

// holdFollows fails where what the chapter says that follows (P19.6, P19.7, P19.9) does not hold of a text.
func holdFollows(t *testing.T, x api.Lang, s string) {
	t.Helper()
	n := Tree(x, s)
	if n.From != 0 || n.To != len(s) || n.Field != "" {
		t.Fatalf("%q: %s is not of all of it", s, show(n))
	}
	if node.Wrong(n) == Clean(x, s) {
		t.Fatalf("%q: %s, and Clean tells %v", s, show(n), Clean(x, s))
	}
	holdLeaves(t, x, s, n)
	holdFit(t, n, n.To, Kinds(x))
}

// holdLeaves fails where a token that is not hidden has not just one leaf, or other leaves are of more than hidden tokens, or do not rise.
func holdLeaves(t *testing.T, x api.Lang, s string, n api.Node) {
	t.Helper()
	l := Tokens(x, s)
	isHidden := func(p api.Piece) bool { return p.Term >= 0 && strings.HasPrefix(x.Flat.Terms[p.Term], "_") }
	leaves := node.Leaves(n)
	for _, p := range l {
		many := 0
		for _, leaf := range leaves {
			if leaf.From == p.From && leaf.To == p.To {
				many++
			}
		}
		if !isHidden(p) && many != 1 {
			t.Fatalf("%q: %s has %d leaves from %d to %d", s, show(n), many, p.From, p.To)
		}
	}
	at := 0
	for _, leaf := range leaves {
		if leaf.From < at || leaf.To < leaf.From {
			t.Fatalf("%q: the leaves of %s do not rise", s, show(n))
		}
		at = leaf.To
		ofOne := slices.ContainsFunc(l, func(p api.Piece) bool { return p.From == leaf.From && p.To == leaf.To })
		ofMore := slices.ContainsFunc(l, func(p api.Piece) bool { return p.From < leaf.To && p.To > leaf.From && !isHidden(p) })
		if leaf.From < leaf.To && !ofOne && ofMore {
			t.Fatalf("%q: %s has a leaf from %d to %d", s, show(n), leaf.From, leaf.To)
		}
	}
}

// holdFit fails where a tree is not fit, but for how many nodes it has, and how deep they go, or a Kind is none of some.
func holdFit(t *testing.T, n api.Node, size int, kinds []string) {
	t.Helper()
	alone := n
	alone.Kids = nil
	if !node.Fit(alone, size) || !slices.Contains(kinds, n.Kind) {
		t.Fatalf("%s is not fit, or its Kind is none of %q", show(n), kinds)
	}
	at := n.From
	for _, kid := range n.Kids {
		if kid.From < at || kid.To > n.To || n.Bad == api.BadMiss {
			t.Fatalf("%s lies otherwise than it may in %s", show(kid), show(n))
		}
		at = kid.To
		holdFit(t, kid, size, kinds)
	}
}
