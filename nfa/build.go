package nfa

import "bramble/api"

// wanted is how many states a fit expression wants. It may stop counting behind MaxNfa: a set may have very many rows.
func wanted(x api.Rex) int {
	switch x.Op {
	case api.RxSet:
		return 2 + wantedWithin(x.Set)
	case api.RxCat:
		return wantedByAll(x.Subs)
	}
	return 2 + wantedByAll(x.Subs)
}

// wantedByAll is how many states some expressions want together.
func wantedByAll(l []api.Rex) int {
	n := 0
	for _, x := range l {
		if n > api.MaxNfa {
			break
		}
		n += wanted(x)
	}
	return n
}

// wantedWithin is how many states the rows of a set want between their bytes.
func wantedWithin(l []api.Runes) int {
	n := 0
	for _, x := range l {
		for row := range rows(x) {
			n += len(row) - 1
		}
		if n > api.MaxNfa {
			break
		}
	}
	return n
}

// builder is a machine that grows: a part becomes states of which one begins it and one ends it. Within a part nothing leads to the one or away from the other, so that parts can be put together by both.
type builder struct {
	api.Nfa
}

// all makes the machine of expressions: each accepts its own number at its end.
func (b *builder) all(l []api.Rex) {
	begin := b.state()
	for i, x := range l {
		from, to := b.part(x)
		b.lead(begin, from)
		b.States[to].Accept = i
	}
}

// state is a new state that leads nowhere.
func (b *builder) state() int {
	b.States = append(b.States, api.Nstate{Accept: nothing})
	return len(b.States) - 1
}

// lead lets a state be another one, too.
func (b *builder) lead(from, to int) {
	b.States[from].Eps = append(b.States[from].Eps, to)
}

// part makes the states of an expression.
func (b *builder) part(x api.Rex) (from, to int) {
	if x.Op == api.RxCat {
		return b.inRow(x.Subs)
	}
	from, to = b.state(), b.state()
	for _, letters := range x.Set {
		for row := range rows(letters) {
			b.row(from, to, row)
		}
	}
	for _, sub := range x.Subs {
		begin, end := b.part(sub)
		b.lead(from, begin)
		b.lead(end, to)
		if x.Op == api.RxStar || x.Op == api.RxPlus {
			b.lead(end, begin)
		}
	}
	if x.Op == api.RxEmpty || x.Op == api.RxStar || x.Op == api.RxOpt {
		b.lead(from, to)
	}
	return from, to
}

// inRow makes the states of expressions, one behind the other.
func (b *builder) inRow(l []api.Rex) (from, to int) {
	from, to = b.part(l[0])
	for _, x := range l[1:] {
		begin, end := b.part(x)
		b.lead(to, begin)
		to = end
	}
	return from, to
}

// row lets a row of bytes lead from one state to another one.
func (b *builder) row(from, to int, row []api.Arc) {
	for i, x := range row {
		x.To = to
		if i < len(row)-1 {
			x.To = b.state()
		}
		b.States[from].Arcs = append(b.States[from].Arcs, x)
		from = x.To
	}
}
