package gram

import (
	"strconv"
	"strings"

	"bramble/api"
)

// write writes a part within one of another kind.
func write(out *strings.Builder, outer int, x api.Gx) {
	if !enclosed(outer, x.Op) {
		writeOpen(out, x)
		return
	}
	out.WriteByte('(')
	writeOpen(out, x)
	out.WriteByte(')')
}

// writeOpen writes a part without parentheses of its own.
func writeOpen(out *strings.Builder, x api.Gx) {
	switch x.Op {
	case api.GxName:
		out.WriteString(x.Name)
	case api.GxLit:
		writeLiteral(out, x.Name)
	case api.GxField:
		out.WriteString(x.Name + ":")
	case api.GxPrec:
		writePrec(out, x)
	}
	for i, sub := range x.Subs {
		if i > 0 {
			out.WriteString(between(x.Op))
		}
		write(out, x.Op, sub)
	}
	switch x.Op {
	case api.GxStar:
		out.WriteByte('*')
	case api.GxPlus:
		out.WriteByte('+')
	case api.GxOpt:
		out.WriteByte('?')
	case api.GxAlias:
		out.WriteString("=" + x.Name)
	}
}

// between is what stands between two Subs of a kind that may have more than one.
func between(op int) string {
	if op == api.GxAlt {
		return " | "
	}
	return " "
}

// writePrec writes what stands ahead of a GxPrec's sub. Of a GxCat of nothing nothing follows, and so no blank stands there.
func writePrec(out *strings.Builder, x api.Gx) {
	out.WriteString("%" + strconv.Itoa(x.Num))
	if sub := x.Subs[0]; sub.Op != api.GxCat || len(sub.Subs) > 0 {
		out.WriteByte(' ')
	}
}

// writeLiteral writes a literal's bytes between two bytes 34.
func writeLiteral(out *strings.Builder, s string) {
	out.WriteByte('"')
	for i := range len(s) {
		if escaped(s[i]) {
			out.WriteByte('\\')
		}
		out.WriteByte(s[i])
	}
	out.WriteByte('"')
}
