package vm

import (
	"iter"
	"strconv"
	"strings"

	"bramble/api"
)

// words hands out the words of a text and where they stand.
func words(s string) iter.Seq2[int, string] {
	return func(yield func(int, string) bool) {
		for at := 0; at < len(s); {
			behind := at + wordLen(s[at:])
			if s[at] != ' ' && !yield(at, s[at:behind]) {
				return
			}
			at = behind
		}
	}
}

// wordLen is how many bytes the word has that a text begins with; a blank counts as one.
func wordLen(s string) int {
	n := strings.IndexAny(s, " ;")
	if n < 0 {
		return len(s)
	}
	return max(n, 1)
}

// taker takes a word where one of its kind is wanted; api.OK, if it is one.
type taker func(*reader, string) api.Errno

// reader reads a program word by word.
type reader struct {
	prog   []api.Ins
	last   []int   // where the last word of each operation stands
	wanted []taker // what must follow, up to the end of an operation
}

// take takes the next word, which stands at a place.
func (r *reader) take(at int, w string) api.Errno {
	if len(r.wanted) == 0 {
		return r.semicolon(w)
	}
	first := r.wanted[0]
	r.wanted = r.wanted[1:]
	if err := first(r, w); err != api.OK {
		return err
	}
	r.last[len(r.last)-1] = at
	return api.OK
}

func (r *reader) semicolon(w string) api.Errno {
	if w != ";" {
		return api.ErrForm
	}
	r.wanted = []taker{(*reader).operation}
	return api.OK
}

func (r *reader) operation(w string) api.Errno {
	op, ok := kindOf(w)
	if !ok {
		return api.ErrForm
	}
	if len(r.prog) == maxProgram {
		return api.ErrMany
	}
	r.prog = append(r.prog, api.Ins{Op: op})
	r.last = append(r.last, 0)
	r.wanted = numbersOf(forms[op])
	return api.OK
}

// kindOf is the kind whose word one is.
func kindOf(w string) (int, bool) {
	for op, f := range forms {
		if f.word == w {
			return op, true
		}
	}
	return 0, false
}

// numbersOf is the takers of the numbers that an operation uses.
func numbersOf(f form) []taker {
	var l []taker
	if f.x {
		l = append(l, (*reader).x)
	}
	if f.y {
		l = append(l, (*reader).y)
	}
	if f.z {
		l = append(l, (*reader).z)
	}
	return l
}

// ins is the operation that is read.
func (r *reader) ins() *api.Ins {
	return &r.prog[len(r.prog)-1]
}

func (r *reader) x(w string) api.Errno {
	return number(w, 0, &r.ins().X)
}

func (r *reader) y(w string) api.Errno {
	return number(w, r.ins().X, &r.ins().Y)
}

func (r *reader) z(w string) api.Errno {
	return number(w, 0, &r.ins().Z)
}

// number reads a number that is not below the least one.
func number(w string, least int, to *int) api.Errno {
	n, err := strconv.Atoi(w)
	// Written again it must be the word: Atoi takes signs and a 0 ahead, too.
	if err != nil || strconv.Itoa(n) != w || n < least || n > maxByte {
		return api.ErrForm
	}
	*to = n
	return api.OK
}

// tooFar is where the first Z stands that is no place of the program. Only when all is read it is known how many operations there are.
func (r *reader) tooFar() (int, bool) {
	for i, x := range r.prog {
		if x.Z > len(r.prog) {
			return r.last[i], true
		}
	}
	return 0, false
}
