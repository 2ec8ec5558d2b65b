package rex

import (
	"strings"

	"bramble/api"
)

// enclosed tells whether a part of one kind stands in parentheses within one of another kind.
func enclosed(outer, inner int) bool {
	switch outer {
	case api.RxCat:
		return inner == api.RxCat || inner == api.RxAlt
	case api.RxAlt:
		return inner == api.RxAlt
	}
	return inner != api.RxSet && inner != api.RxEmpty
}

// write writes an expression.
func write(out *strings.Builder, x api.Rex) {
	switch x.Op {
	case api.RxEmpty:
		out.WriteString("()")
	case api.RxSet:
		writeSet(out, x.Set)
	}
	for i, sub := range x.Subs {
		if i > 0 && x.Op == api.RxAlt {
			out.WriteByte('|')
		}
		writeSub(out, x.Op, sub)
	}
	switch x.Op {
	case api.RxStar:
		out.WriteByte('*')
	case api.RxPlus:
		out.WriteByte('+')
	case api.RxOpt:
		out.WriteByte('?')
	}
}

// writeSub writes a part within one of another kind.
func writeSub(out *strings.Builder, outer int, x api.Rex) {
	if !enclosed(outer, x.Op) {
		write(out, x)
		return
	}
	out.WriteByte('(')
	write(out, x)
	out.WriteByte(')')
}

// writeSet writes a set of letters.
func writeSet(out *strings.Builder, l []api.Runes) {
	if isAlone(l) {
		writeLetter(out, l[0].Lo)
		return
	}
	out.WriteByte('[')
	for _, x := range l {
		writeLetter(out, x.Lo)
		if x.Lo < x.Hi {
			out.WriteByte('-')
			writeLetter(out, x.Hi)
		}
	}
	out.WriteByte(']')
}

// writeLetter writes a letter so that it can stand anywhere, within [ ] too.
func writeLetter(out *strings.Builder, letter int) {
	switch letter {
	case '\n':
		out.WriteString(`\n`)
		return
	case '\t':
		out.WriteString(`\t`)
		return
	case '\r':
		out.WriteString(`\r`)
		return
	}
	if strings.ContainsRune(`()[]*+?|.\-^`, rune(letter)) {
		out.WriteByte('\\')
	}
	out.WriteRune(rune(letter))
}
