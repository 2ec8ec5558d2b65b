package node

import (
	"strings"

	"bramble/api"
)

// write writes a tree that ends.
func write(w *strings.Builder, n api.Node) {
	if n.Field != "" {
		w.WriteString(n.Field)
		w.WriteString(": ")
	}
	switch {
	case n.Bad == api.BadMiss:
		w.WriteString("(MISSING ")
		w.WriteString(n.Kind)
		w.WriteString(")")
	case n.Named || n.Bad == api.BadError:
		w.WriteString("(")
		w.WriteString(n.Kind)
		writeKids(w, n.Kids, " ", "")
		w.WriteString(")")
	default:
		w.WriteString(n.Kind)
		writeKids(w, n.Kids, "[", "]")
	}
}

// writeKids writes kids, blanks between, with what stands ahead of the first one and behind the last one; of no kids nothing.
func writeKids(w *strings.Builder, kids []api.Node, ahead, behind string) {
	if len(kids) == 0 {
		return
	}
	for _, kid := range kids {
		w.WriteString(ahead)
		write(w, kid)
		ahead = " "
	}
	w.WriteString(behind)
}
