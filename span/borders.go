package span

import (
	"cmp"
	"iter"
	"slices"

	"bramble/api"
)

// mark is where a range of one of two sets begins (1) or ends (-1).
type mark struct {
	at int
	a  int
	b  int
}

// sides tells which of two sets have the bytes behind a border.
type sides struct {
	a bool
	b bool
}

// marks is where the ranges of two sets begin and end, in order. Those that have no byte are left out here, so that every beginning has its end behind it.
func marks(a, b []api.Range) []mark {
	l := make([]mark, 0, 2*(len(a)+len(b)))
	for _, r := range a {
		if from := max(r.From, 0); from < r.To {
			l = append(l, mark{at: from, a: 1}, mark{at: r.To, a: -1})
		}
	}
	for _, r := range b {
		if from := max(r.From, 0); from < r.To {
			l = append(l, mark{at: from, b: 1}, mark{at: r.To, b: -1})
		}
	}
	slices.SortFunc(l, func(x, y mark) int { return cmp.Compare(x.at, y.at) })
	return l
}

// borders hands out the places where ranges of two sets begin or end, each once and rising, and what holds from there on. Ranges of one set may lie within one another, so that those which are open are counted.
func borders(a, b []api.Range) iter.Seq2[int, sides] {
	return func(yield func(int, sides) bool) {
		l := marks(a, b)
		open := mark{}
		for i, m := range l {
			open.a += m.a
			open.b += m.b
			if i+1 < len(l) && l[i+1].at == m.at {
				continue
			}
			if !yield(m.at, sides{a: open.a > 0, b: open.b > 0}) {
				return
			}
		}
	}
}

// keep is the normal form of the bytes that stay. What neither set has must not stay: there is no border behind which it would end.
func keep(a, b []api.Range, stays func(sides) bool) []api.Range {
	var l []api.Range
	from, open := 0, false
	for at, in := range borders(a, b) {
		if stays(in) == open {
			continue
		}
		if open {
			l = append(l, api.Range{From: from, To: at})
		}
		from, open = at, !open
	}
	return l
}

// parts hands out the ranges of a normal form, with how many bytes are ahead of each.
func parts(l []api.Range) iter.Seq2[int, api.Range] {
	return func(yield func(int, api.Range) bool) {
		ahead := 0
		for _, r := range l {
			if !yield(ahead, r) {
				return
			}
			ahead += r.To - r.From
		}
	}
}
