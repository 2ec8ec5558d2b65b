package gram

import (
	"strconv"
	"strings"

	"bramble/api"
)

// Kinds of signs; of those that are one byte the kind is that byte.
const (
	signEnd     = 0 // the end of the text
	signName    = 'a'
	signLiteral = '"'
	signPrec    = '%'
)

// sign is a sign of a body's text.
type sign struct {
	kind byte
	at   int
	text string // a name, or what a literal stands for
	num  int    // of %
}

// beginsName tells whether a byte can be a name's first one.
func beginsName(c byte) bool {
	return 'a' <= c && c <= 'z' || 'A' <= c && c <= 'Z' || c == '_'
}

func isDigit(c byte) bool {
	return '0' <= c && c <= '9'
}

// inLiteral tells whether a byte can be one of a literal's.
func inLiteral(c byte) bool {
	return 32 <= c && c <= 126
}

// escaped tells whether a byte of a literal has a backslash ahead.
func escaped(c byte) bool {
	return c == '"' || c == '\\'
}

// nameLen is with how many bytes a text begins that can be some of a name's.
func nameLen(s string) int {
	n := 0
	for n < len(s) && (beginsName(s[n]) || isDigit(s[n])) {
		n++
	}
	return n
}

// fail gives up with a fault at a place.
func fail(err api.Errno, at int) {
	panic(api.Fault{Err: err, At: at})
}

// advance reads the next sign, wholly; at the end that is one, so that there always is a sign to look at.
func (r *reader) advance() {
	for r.next < len(r.s) && r.s[r.next] == ' ' {
		r.next++
	}
	r.sign = sign{at: r.next}
	if r.next == len(r.s) {
		return
	}
	r.kind = r.s[r.next]
	switch {
	case beginsName(r.kind):
		r.readName()
	case r.kind == signLiteral:
		r.readLiteral()
	case r.kind == signPrec:
		r.readPrec()
	case strings.IndexByte("()|*+?=:", r.kind) >= 0:
		r.next++
	default:
		fail(api.ErrForm, r.next)
	}
}

func (r *reader) readName() {
	r.kind = signName
	from := r.next
	r.next += nameLen(r.s[from:])
	r.text = r.s[from:r.next]
	r.checkLen()
}

// checkLen gives up if a name or a literal is too long.
func (r *reader) checkLen() {
	if len(r.text) > api.MaxName {
		fail(api.ErrLong, r.at)
	}
}

func (r *reader) readLiteral() {
	r.next++
	var out strings.Builder
	for r.next < len(r.s) && r.s[r.next] != '"' {
		r.readLiteralByte(&out)
	}
	r.text = out.String()
	// Too long is told ahead of not ended, as the chapter names them.
	r.checkLen()
	if r.next == len(r.s) {
		fail(api.ErrShort, r.next)
	}
	if r.text == "" {
		fail(api.ErrForm, r.next)
	}
	r.next++
}

// readLiteralByte reads a byte of a literal; a backslash at the end of the text stands for none.
func (r *reader) readLiteralByte(out *strings.Builder) {
	may := inLiteral
	if r.s[r.next] == '\\' {
		may = escaped
		r.next++
	}
	if r.next == len(r.s) {
		return
	}
	if !may(r.s[r.next]) {
		fail(api.ErrForm, r.next)
	}
	out.WriteByte(r.s[r.next])
	r.next++
}

func (r *reader) readPrec() {
	r.next++
	from := r.next
	if r.next < len(r.s) && r.s[r.next] == '-' {
		r.next++
	}
	r.readDigits()
	written := r.s[from:r.next]
	n, err := strconv.Atoi(written)
	// Written again it must be the same: Atoi takes -0 and a 0 ahead, too.
	if err != nil || strconv.Itoa(n) != written || n < -maxPrec || n > maxPrec {
		fail(api.ErrForm, r.at)
	}
	r.num = n
}

// readDigits goes on behind digits, of which there must be one.
func (r *reader) readDigits() {
	if r.next == len(r.s) {
		fail(api.ErrShort, r.next)
	}
	if !isDigit(r.s[r.next]) {
		fail(api.ErrForm, r.next)
	}
	for r.next < len(r.s) && isDigit(r.s[r.next]) {
		r.next++
	}
}
