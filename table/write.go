package table

import (
	"strings"

	"bramble/api"
)

// The greatest number that two bytes can tell.
const most = 65535

// writer writes numbers as two bytes each. That one of them can't be told so is kept in mind till all are written.
type writer struct {
	strings.Builder
	beyond bool
}

// numbers writes as many as are handed on.
func (w *writer) numbers(l ...int) {
	for _, n := range l {
		if n < 0 || n > most {
			w.beyond = true
		}
		w.WriteByte(byte(n >> 8))
		w.WriteByte(byte(n))
	}
}

func (w *writer) table(t api.Table) {
	w.numbers(len(t.Rows))
	for _, r := range t.Rows {
		w.row(r)
	}
}

func (w *writer) row(r api.Row) {
	w.numbers(len(r.Acts))
	for _, a := range r.Acts {
		w.act(a)
	}
	w.numbers(len(r.Goes))
	for _, g := range r.Goes {
		w.numbers(g.Sym, g.To)
	}
}

// act writes an Act: its To is told as 1 more, so that nowhere is 0.
func (w *writer) act(a api.Act) {
	w.numbers(a.Look, a.To+1, len(a.Reduce))
	w.numbers(a.Reduce...)
	if a.Accept {
		w.numbers(1)
	} else {
		w.numbers(0)
	}
}

// item writes an item: its Prod is told as 1 more, so that the whole's is 0.
func (w *writer) item(x api.Lr) {
	w.numbers(x.Prod+1, x.Dot, x.Look)
}
