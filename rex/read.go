package rex

import (
	"iter"

	"bramble/api"
)

// sign is a letter of a text that is read, or what stands for one, and its place.
type sign struct {
	letter int
	at     int
}

// signsOf is the signs of a text; the last one is its end, so that there always is one to look at.
func signsOf(s string) []sign {
	var l []sign
	at := 0
	for letter, behind := range letters(s) {
		l = append(l, sign{letter: letter, at: at})
		at = behind
	}
	return append(l, sign{letter: endOfText, at: len(s)})
}

// reader reads an expression sign by sign. Where it can't go on it gives up by panic with an api.Fault.
type reader struct {
	signs  []sign
	next   int
	depth  int // parentheses that are open
	leaves int // RxEmpty and RxSet so far
}

// letter is the one that is read next.
func (r *reader) letter() int {
	return r.signs[r.next].letter
}

// fail gives up at the sign that is read next.
func (r *reader) fail(err api.Errno) {
	panic(api.Fault{Err: err, At: r.signs[r.next].at})
}

// misplaced gives up at a sign that may not stand there.
func (r *reader) misplaced() {
	if r.letter() == endOfText {
		r.fail(api.ErrShort)
	}
	r.fail(api.ErrForm)
}

// count counts an RxEmpty or RxSet where it begins, ahead of what may be wrong within it.
func (r *reader) count() {
	r.leaves++
	if r.leaves > api.MaxRex {
		r.fail(api.ErrMany)
	}
}

// alternatives reads rows with | between, up to the text's end or a ) that closes.
func (r *reader) alternatives() api.Rex {
	l := []api.Rex{r.row()}
	for r.letter() == '|' {
		r.next++
		l = append(l, r.row())
	}
	return together(api.RxAlt, l)
}

// row reads parts, one behind the other.
func (r *reader) row() api.Rex {
	var l []api.Rex
	for !r.rowEnds() {
		l = append(l, r.repeated())
	}
	if len(l) == 0 {
		r.count()
		return api.Rex{Op: api.RxEmpty}
	}
	return together(api.RxCat, l)
}

// rowEnds tells whether no part more follows. It gives up at a ) that closes nothing: that is wrong ahead of an RxEmpty too many which it would end.
func (r *reader) rowEnds() bool {
	switch r.letter() {
	case ')':
		if r.depth == 0 {
			r.misplaced()
		}
		return true
	case '|', endOfText:
		return true
	}
	return false
}

// repeated reads a part and how often it stands.
func (r *reader) repeated() api.Rex {
	x := r.part()
	op := 0
	switch r.letter() {
	case '*':
		op = api.RxStar
	case '+':
		op = api.RxPlus
	case '?':
		op = api.RxOpt
	default:
		return x
	}
	r.next++
	return api.Rex{Op: op, Subs: []api.Rex{x}}
}

// part reads a part.
func (r *reader) part() api.Rex {
	letter := r.letter()
	switch letter {
	case '(':
		return r.group()
	case ']', '*', '+', '?', noLetter:
		r.misplaced()
	}
	r.count()
	switch letter {
	case '[':
		return set(r.brackets())
	case '\\':
		return set(r.escaped(true))
	}
	r.next++
	if letter == '.' {
		return set(others(alone('\n')))
	}
	return set(alone(letter))
}

// group reads an expression in parentheses.
func (r *reader) group() api.Rex {
	if r.depth == api.MaxDepth {
		r.fail(api.ErrDeep)
	}
	r.depth++
	r.next++
	x := r.alternatives()
	if r.letter() != ')' {
		r.misplaced()
	}
	r.depth--
	r.next++
	return x
}

// brackets reads a set in [ ].
func (r *reader) brackets() []api.Runes {
	r.next++
	negated := r.letter() == '^'
	if negated {
		r.next++
	}
	var l []api.Runes
	for x := range r.members() {
		l = append(l, x)
	}
	l = inOrder(l)
	if negated {
		l = others(l)
	}
	if len(l) == 0 {
		r.misplaced()
	}
	r.next++
	return l
}

// members hands out the letters of a set's members, up to its ].
func (r *reader) members() iter.Seq[api.Runes] {
	return func(yield func(api.Runes) bool) {
		// The first one is read whatever stands there: a ] ahead of which there is none is no member either.
		for first := true; first || r.letter() != ']'; first = false {
			for _, x := range r.member() {
				if !yield(x) {
					return
				}
			}
		}
	}
}

// member reads a letter, letters of a kind, or the letters from one to another one.
func (r *reader) member() []api.Runes {
	l := r.memberLetter(true)
	if !isAlone(l) || r.letter() != '-' {
		return l
	}
	r.next++
	second := r.next
	hi := r.memberLetter(false)[0].Hi
	if hi < l[0].Lo {
		r.next = second
		r.misplaced()
	}
	return []api.Runes{between(l[0].Lo, hi)}
}

// memberLetter reads a letter within [ ], or letters of a kind where these may stand.
func (r *reader) memberLetter(kinds bool) []api.Runes {
	letter := r.letter()
	switch letter {
	case '\\':
		return r.escaped(kinds)
	case ']', '[', '-', '^', noLetter, endOfText:
		r.misplaced()
	}
	r.next++
	return alone(letter)
}

// escaped reads a backslash and the letter behind it; d, w and s only where letters of a kind may stand.
func (r *reader) escaped(kinds bool) []api.Runes {
	r.next++
	l := escapedLetter(r.letter())
	if l == nil && kinds {
		l = lettersOfKind(r.letter())
	}
	if l == nil {
		r.misplaced()
	}
	r.next++
	return l
}

// escapedLetter is the one letter that a backslash and a letter stand for.
func escapedLetter(letter int) []api.Runes {
	switch {
	case letter == 'n':
		return alone('\n')
	case letter == 't':
		return alone('\t')
	case letter == 'r':
		return alone('\r')
	case letter >= '!' && letter <= '/', letter >= ':' && letter <= '@', letter >= '[' && letter <= '`', letter >= '{' && letter <= '~':
		return alone(letter)
	}
	return nil
}

// lettersOfKind is the letters that a backslash and d, w or s stand for.
func lettersOfKind(letter int) []api.Runes {
	switch letter {
	case 'd':
		return []api.Runes{between('0', '9')}
	case 'w':
		return []api.Runes{between('0', '9'), between('A', 'Z'), between('_', '_'), between('a', 'z')}
	case 's':
		return []api.Runes{between('\t', '\n'), between('\r', '\r'), between(' ', ' ')}
	}
	return nil
}
