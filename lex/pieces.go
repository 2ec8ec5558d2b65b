package lex

import (
	"iter"

	"bramble/api"
	"bramble/dfa"
	"bramble/vm"
)

// end stands behind a text that is looked at, so that a machine that goes along all of the text is seen to look farther; which byte it is plays no part.
const end = "\x00"

// tokenAt is the token at a place of a text, which has its end behind it; a piece of no byte, if there is none.
func tokenAt(x api.Lexer, ended string, at, state int) api.Piece {
	p := api.Piece{Term: none, From: at, To: at, State: int(byte(state)), Seen: at}
	s := ended[:len(ended)-len(end)]
	for i := range min(len(x.Scans), len(x.Progs)) {
		n, then, seen := vm.Run(x.Progs[i], s, at, p.State)
		p.Seen = max(p.Seen, at+seen)
		if n > 0 {
			p.Term, p.To, p.State = x.Scans[i], at+n, then
			return p
		}
	}
	p.Seen = max(p.Seen, at+dfa.Seen(x.Dfa, ended[at:]))
	// A machine that comes of no grammar may have other numbers than there are terminals.
	if n, place := dfa.Run(x.Dfa, s[at:]); 0 <= place && place < len(x.Of) {
		p.Term, p.To = x.Of[place], at+n
	}
	return p
}

// steps hands out, from a place on, in a state there, each token, and each byte that is none.
func steps(x api.Lexer, s string, at, state int) iter.Seq[api.Piece] {
	return func(yield func(api.Piece) bool) {
		ended := s + end
		for from, then := at, state; 0 <= from && from < len(s); {
			p := tokenAt(x, ended, from, then)
			if isEmpty(p) {
				p.To = from + 1
			}
			if !yield(p) {
				return
			}
			from, then = p.To, p.State
		}
	}
}

// pieces hands out the pieces of a text from a place on, in a state there. What is ahead of it must not end with bytes that are none.
func pieces(x api.Lexer, s string, at, state int) iter.Seq[api.Piece] {
	return func(yield func(api.Piece) bool) {
		var bad api.Piece // bytes that are none, till it is known where they end
		for p := range steps(x, s, at, state) {
			if p.Term == none {
				bad = joined(bad, p)
				continue
			}
			if !isEmpty(bad) && !yield(bad) {
				return
			}
			if !yield(p) {
				return
			}
			bad = api.Piece{}
		}
		if !isEmpty(bad) {
			yield(bad)
		}
	}
}

func isEmpty(p api.Piece) bool {
	return p.From == p.To
}

// joined is two pieces of bytes that are none, the first one perhaps empty, as one.
func joined(a, b api.Piece) api.Piece {
	if isEmpty(a) {
		return b
	}
	b.From, b.Seen = a.From, max(a.Seen, b.Seen)
	return b
}

// endOf is where pieces end, and the state there.
func endOf(l []api.Piece) (int, int) {
	if len(l) == 0 {
		return 0, 0
	}
	p := l[len(l)-1]
	return p.To, p.State
}

// moved is the pieces that end no earlier than what an edit takes out, as they would stand behind it.
func moved(l []api.Piece, e api.Edit) []api.Piece {
	by := len(e.Text) - e.Old
	var told []api.Piece
	for _, p := range l {
		if p.To >= e.At+e.Old {
			p.From, p.To, p.Seen = p.From+by, p.To+by, p.Seen+by
			told = append(told, p)
		}
	}
	return told
}
