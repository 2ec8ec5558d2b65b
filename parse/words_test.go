package parse

import (
	"reflect"
	"slices"
	"strings"
	"testing"

	"bramble/api"
	"bramble/lex"
	"bramble/mend"
)

// What follows says the chapter's words once more: all symbols of a way become parts, those that are not shown, too, and these are taken out behind that.

// part is what one symbol of a way, or a heap, comes to.
type part struct {
	node  api.Node // without Kids
	shown bool
	field string // its item's
	kids  []part
}

func tokensByWords(x api.Lang, s string) []api.Piece {
	skips := map[string]int{}
	for _, token := range x.Gram.Tokens {
		if token.Skip {
			skips[token.Name] = 1
		}
	}
	var l []api.Piece
	for _, p := range lex.All(x.Lexer, s) {
		if p.Term < 0 || skips[x.Flat.Terms[p.Term]] == 0 {
			l = append(l, p)
		}
	}
	return l
}

func isLiteral(name string) bool { return name[0] == 34 }

func hiddenByWords(f api.Flat, sym int) bool {
	if sym < len(f.Terms) {
		return f.Terms[sym][0] == '_'
	}
	name := f.Nons[sym-len(f.Terms)]
	return name[0] == '_' || name[0] == '#'
}

func leafByWords(f api.Flat, p api.Piece) api.Node {
	if p.Term == -1 {
		return api.Node{Kind: "ERROR", Named: true, Bad: api.BadError, From: p.From, To: p.To}
	}
	name := f.Terms[p.Term]
	return api.Node{Kind: name, Named: !isLiteral(name), From: p.From, To: p.To}
}

func heapByWords(f api.Flat, l []api.Piece) part {
	h := part{shown: true, node: api.Node{Kind: "ERROR", Named: true, Bad: api.BadError, From: l[0].From, To: l[len(l)-1].To}}
	for _, p := range l {
		h.kids = append(h.kids, part{shown: true, node: leafByWords(f, p)})
	}
	return h
}

// partOf is the part of a way, as an item, and where it ends.
func partOf(f api.Flat, l []api.Piece, d api.Der, at int, as api.Item) (part, int) {
	whole := part{field: as.Field, node: api.Node{From: at, To: at}}
	if own := l[d.From:d.To]; len(own) > 0 {
		whole.node.From, whole.node.To = own[0].From, own[len(own)-1].To
	}
	shown := as.Alias != "" || !hiddenByWords(f, d.Sym)
	dress := func(n api.Node, name string) api.Node {
		n.Kind, n.Named = name, !isLiteral(name)
		if as.Alias != "" {
			n.Kind, n.Named = as.Alias, true
		}
		return n
	}
	switch d.Prod {
	case -2:
		whole.node.Bad = api.BadMiss
		whole.node, whole.shown = dress(whole.node, f.Terms[d.Sym]), true
	case -1:
		if d.Junk > 0 {
			whole.kids = append(whole.kids, heapByWords(f, l[d.From:d.From+d.Junk]))
		}
		if shown {
			leaf := dress(leafByWords(f, l[d.From+d.Junk]), f.Terms[d.Sym])
			whole.kids = append(whole.kids, part{shown: true, node: leaf})
		}
	default:
		whole.node, whole.shown = dress(whole.node, f.Nons[d.Sym-len(f.Terms)]), shown
		whole.kids = kidsOf(f, l, d, whole.node.From)
	}
	return whole, whole.node.To
}

func kidsOf(f api.Flat, l []api.Piece, d api.Der, at int) []part {
	var kids []part
	for i, kid := range d.Kids {
		one, end := partOf(f, l, kid, at, f.Prods[d.Prod].Right[i])
		kids = append(kids, one)
		at = end
	}
	return kids
}

// shownOf is what is shown of parts, side by side.
func shownOf(parts []part) []api.Node {
	var all []api.Node
	for _, p := range parts {
		nodes := shownOf(p.kids)
		if p.shown {
			n := p.node
			n.Kids = nodes
			nodes = []api.Node{n}
		}
		for _, n := range nodes {
			if n.Field == "" {
				n.Field = p.field
			}
			all = append(all, n)
		}
	}
	return all
}

func rowByWords(l []api.Piece) []int {
	var row []int
	for _, p := range l {
		row = append(row, p.Term)
	}
	return row
}

func treeByWords(x api.Lang, s string) api.Node {
	l := tokensByWords(x, s)
	if row := rowByWords(l); len(row) < 41 {
		if m, ok := mend.Best(x.Flat, row); ok {
			parts := kidsOf(x.Flat, l, m.Root, 0)
			if m.Rest > 0 {
				parts = append(parts, heapByWords(x.Flat, l[len(l)-m.Rest:]))
			}
			return api.Node{Kind: x.Gram.Rules[0].Name, Named: true, To: len(s), Kids: shownOf(parts)}
		}
	}
	n := api.Node{Kind: "ERROR", Named: true, Bad: api.BadError, To: len(s)}
	for _, p := range l {
		n.Kids = append(n.Kids, leafByWords(x.Flat, p))
	}
	return n
}

func kindsByWords(x api.Lang) []string {
	all := map[string]int{"ERROR": 1}
	for _, name := range x.Flat.Terms {
		all[name] = 1
	}
	for _, token := range x.Gram.Tokens {
		if token.Skip {
			delete(all, token.Name)
		}
	}
	for _, name := range x.Flat.Nons {
		if !strings.ContainsAny(name[:1], "_#") {
			all[name] = 1
		}
	}
	for _, p := range x.Flat.Prods {
		for _, item := range p.Right {
			all[item.Alias] = 1
		}
	}
	delete(all, "")
	var l []string
	for name := range all {
		l = append(l, name)
	}
	slices.Sort(l)
	return l
}

// holdWords fails where something else is told of a text than by the words.
func holdWords(t *testing.T, x api.Lang, s string) {
	t.Helper()
	if got, want := Tokens(x, s), tokensByWords(x, s); !reflect.DeepEqual(got, want) {
		t.Fatalf("%q: tokens %v, not %v", s, got, want)
	}
	if got, want := Tree(x, s), treeByWords(x, s); !reflect.DeepEqual(got, want) {
		t.Fatalf("%q:\n%s, not\n%s", s, show(got), show(want))
	}
	if got, want := Kinds(x), kindsByWords(x); !slices.Equal(got, want) {
		t.Fatalf("kinds %q, not %q", got, want)
	}
}
