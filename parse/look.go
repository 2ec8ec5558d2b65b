package parse

import (
	"strings"

	"bramble/api"
)

// kindError is the Kind of what fits nothing.
const kindError = "ERROR"

// literalSign is how the names of literals begin.
const literalSign = "\""

// look is how a node is shown, wherever it lies.
type look struct {
	kind  string
	named bool
	bad   int
}

// wrong is how what fits nothing is shown.
func wrong() look {
	return look{kind: kindError, named: true, bad: api.BadError}
}

// byName is how a symbol is shown that has no Alias.
func byName(name string) look {
	return look{kind: name, named: !strings.HasPrefix(name, literalSign)}
}

// byAlias is how a symbol is shown that has one.
func byAlias(alias string) look {
	return look{kind: alias, named: true}
}

// missing is how the same is shown where it should be, and is not.
func (k look) missing() look {
	k.bad = api.BadMiss
	return k
}

// node is the node from one byte up to another one that is shown so.
func (k look) node(from, to int, kids []api.Node) api.Node {
	return api.Node{Kind: k.kind, Named: k.named, Bad: k.bad, From: from, To: to, Kids: kids}
}

// token is a piece that is not between others, and how its leaf is shown.
type token struct {
	api.Piece
	look
}

func (t token) leaf() api.Node {
	return t.node(t.From, t.To, nil)
}

// leaves is the leaves of tokens.
func leaves(l []token) []api.Node {
	var all []api.Node
	for _, t := range l {
		all = append(all, t.leaf())
	}
	return all
}

// heap is the node of tokens that fit nothing; of no tokens there is none.
func heap(l []token) []api.Node {
	if len(l) == 0 {
		return nil
	}
	return []api.Node{wrong().node(l[0].From, l[len(l)-1].To, leaves(l))}
}
