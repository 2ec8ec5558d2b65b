package table

import "bramble/api"

// reader reads numbers of two bytes each. Where it can't go on it gives up by panic with an api.Errno.
type reader struct {
	rest string
}

func (r *reader) number() int {
	if len(r.rest) < 2 {
		panic(api.ErrShort)
	}
	n := int(r.rest[0])<<8 | int(r.rest[1])
	r.rest = r.rest[2:]
	return n
}

// list reads how many there are, and then each. No room is made ahead: the text may end long before so many.
func list[T any](r *reader, one func() T) []T {
	var l []T
	for range r.number() {
		l = append(l, one())
	}
	return l
}

func (r *reader) table() api.Table {
	t := api.Table{Rows: list(r, r.row)}
	if r.rest != "" {
		panic(api.ErrForm)
	}
	return t
}

func (r *reader) row() api.Row {
	var row api.Row
	row.Acts = list(r, r.act)
	row.Goes = list(r, r.goes)
	return row
}

func (r *reader) act() api.Act {
	var a api.Act
	a.Look = r.number()
	a.To = r.number() - 1
	a.Reduce = list(r, r.number)
	a.Accept = r.accept()
	return a
}

func (r *reader) accept() bool {
	n := r.number()
	if n > 1 {
		panic(api.ErrForm)
	}
	return n == 1
}

func (r *reader) goes() api.Go {
	var g api.Go
	g.Sym = r.number()
	g.To = r.number()
	return g
}

// caught is the error with which a reader gave up, none if it did not. What is no error of this kind is none of a reader's, and goes on.
func caught(thrown any) api.Errno {
	if thrown == nil {
		return api.OK
	}
	err, ok := thrown.(api.Errno)
	if !ok {
		panic(thrown)
	}
	return err
}
