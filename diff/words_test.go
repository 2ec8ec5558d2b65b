package diff

import (
	"fmt"
	"slices"
	"testing"

	"bramble/api"
	"bramble/node"
	"bramble/sample"
)

// What follows says the chapter's words once more, each node and each byte by itself, so that the calls can be held against them.

func marksByWords(n api.Node, at int) []api.Mark {
	var l []api.Mark
	for _, part := range sample.NodesOf(&n) {
		if !(part.From > at) && part.To > at {
			l = append(l, api.Mark{Kind: part.Kind, First: part.From == at, Last: part.To-1 == at})
		}
	}
	return l
}

// sum is modulo 2^64.
func sum(numbers ...int) int {
	all := uint64(0)
	for _, number := range numbers {
		all += uint64(number)
	}
	return int(all)
}

// fromByWords goes back over the last edit, and asks for the others.
func fromByWords(l []api.Edit, at int) (int, bool) {
	if len(l) == 0 {
		return max(at, 0), at >= 0
	}
	last, ahead := l[len(l)-1], l[:len(l)-1]
	put := len(last.Text)
	if last.At < 0 || last.Old < 0 {
		return 0, false
	}
	if at < last.At {
		return fromByWords(ahead, at)
	}
	if at < sum(last.At, put) {
		return 0, false
	}
	return fromByWords(ahead, sum(at, -put, last.Old))
}

// inChanged tells whether a byte has changed.
func inChanged(a, b api.Node, l []api.Edit, at int) bool {
	from, ok := fromByWords(l, at)
	return !ok || !slices.Equal(marksByWords(b, at), marksByWords(a, from))
}

// rangesOf is the ranges of bytes of which something holds, those that touch as one.
func rangesOf(size int, holds func(at int) bool) []api.Range {
	var l []api.Range
	for at := 0; at < size && at < 65536; at++ {
		if !holds(at) {
			continue
		}
		if at > 0 && holds(at-1) {
			l[len(l)-1].To = at + 1
		} else {
			l = append(l, api.Range{From: at, To: at + 1})
		}
	}
	return l
}

func changedByWords(a, b api.Node, l []api.Edit, size int) []api.Range {
	return rangesOf(size, func(at int) bool { return inChanged(a, b, l, at) })
}

func alikeByWords(a, b api.Node, size int) bool {
	for at := 0; at < size && at < 65536; at++ {
		if !slices.Equal(marksByWords(a, at), marksByWords(b, at)) {
			return false
		}
	}
	return true
}

// holdMarks holds Marks against the chapter's words.
func holdMarks(t *testing.T, n api.Node, at int) {
	t.Helper()
	got, want := Marks(n, at), marksByWords(n, at)
	if !slices.Equal(got, want) || len(want) == 0 && got != nil {
		t.Errorf("byte %d of %v: %v, not %v", at, n, got, want)
	}
}

// holdFrom holds From against the chapter's words.
func holdFrom(t *testing.T, l []api.Edit, at int) {
	t.Helper()
	got, ok := From(l, at)
	if want, wantOk := fromByWords(l, at); got != want || ok != wantOk {
		t.Errorf("byte %d behind %v: %d, %v, not %d, %v", at, l, got, ok, want, wantOk)
	}
}

// holdChanged holds Changed against the chapter's words, and tells it.
func holdChanged(t *testing.T, a, b api.Node, l []api.Edit, size int) []api.Range {
	t.Helper()
	got, want := Changed(a, b, l, size), changedByWords(a, b, l, size)
	if !slices.Equal(got, want) || len(want) == 0 && got != nil {
		t.Errorf("%v, %v, %v, %d bytes: %v, not %v", a, b, l, size, got, want)
	}
	return got
}

// holdAlike holds Alike against the chapter's words, both ways round.
func holdAlike(t *testing.T, a, b api.Node, size int) {
	t.Helper()
	want := alikeByWords(a, b, size)
	if Alike(a, b, size) != want || Alike(b, a, size) != want {
		t.Errorf("%v, %v, %d bytes: not %v", a, b, size, want)
	}
}

// treeOf is a tree as sample.TreeOf reads it, that is fit.
func treeOf(s string) api.Node {
	n := sample.TreeOf(s)
	if !node.Fit(n, api.MaxText) {
		panic(s)
	}
	return n
}

// textOf is marks, each as a Kind with "<" behind it, if it is First, and ">", if it is Last.
func textOf(l []api.Mark) string {
	s := ""
	for _, m := range l {
		s += " " + m.Kind
		if m.First {
			s += "<"
		}
		if m.Last {
			s += ">"
		}
	}
	return s[min(1, len(s)):]
}

// rangeText is ranges, as "1-3 5-6".
func rangeText(l []api.Range) string {
	s := ""
	for _, r := range l {
		s += fmt.Sprintf(" %d-%d", r.From, r.To)
	}
	return s[min(1, len(s)):]
}
