package sample

import (
	"slices"
	"strings"

	"bramble/api"
)

// TableOf is tables by a plain grammar's names, as in "x>1 y>2/0 $/1,2! x=1 a=3 | $!": a word with = is a Go; any other one an Act, its To behind >, its Reduce behind /, with ! if it is Accept. $ is the end; a name may be a number instead, and what can't be read is -9.
func TableOf(f api.Flat, s string) api.Table {
	var t api.Table
	for row := range strings.SplitSeq(s, "|") {
		var r api.Row
		for word := range strings.FieldsSeq(row) {
			if sym, to, ok := strings.Cut(word, "="); ok {
				r.Goes = append(r.Goes, api.Go{Sym: symOf(f, sym), To: number(to)})
			} else {
				r.Acts = append(r.Acts, actOf(f, word))
			}
		}
		t.Rows = append(t.Rows, r)
	}
	return t
}

func actOf(f api.Flat, s string) api.Act {
	a := api.Act{To: -1}
	s, a.Accept = strings.CutSuffix(s, "!")
	s, prods, reduces := strings.Cut(s, "/")
	if reduces {
		for prod := range strings.SplitSeq(prods, ",") {
			a.Reduce = append(a.Reduce, number(prod))
		}
	}
	s, to, shifts := strings.Cut(s, ">")
	if shifts {
		a.To = number(to)
	}
	a.Look = lookOf(f, s)
	return a
}

func symOf(f api.Flat, s string) int {
	if at := slices.Index(slices.Concat(f.Terms, f.Nons), s); at >= 0 {
		return at
	}
	return number(s)
}

// FitTable is tables of so many states that are drawn, and that can be a plain grammar's: a Look or a symbol is in a row as often as not, and Acts' Tos are not always where Goes go.
func FitTable(seed *Seed, f api.Flat, states int) api.Table {
	var t api.Table
	for range states {
		var r api.Row
		for look := range len(f.Terms) + 1 {
			if a := fitAct(seed, f, states, look); a.To >= 0 || len(a.Reduce) > 0 || a.Accept {
				r.Acts = append(r.Acts, a)
			}
		}
		for sym := range len(f.Terms) + len(f.Nons) {
			if seed.Below(2) == 0 {
				r.Goes = append(r.Goes, api.Go{Sym: sym, To: seed.Below(states)})
			}
		}
		t.Rows = append(t.Rows, r)
	}
	return t
}

// fitAct is an Act of a Look that is drawn; it may do nothing.
func fitAct(seed *Seed, f api.Flat, states, look int) api.Act {
	a := api.Act{Look: look, To: -1}
	if seed.Below(2) == 0 {
		return a
	}
	for prod := range f.Prods {
		if seed.Below(4) == 0 {
			a.Reduce = append(a.Reduce, prod)
		}
	}
	if seed.Below(3) > 0 {
		return a
	}
	if look == len(f.Terms) {
		a.Accept = true
	} else {
		a.To = seed.Below(states)
	}
	return a
}

// AnyTable is tables of at most so many rows that are drawn, with numbers that are all small, some of them below 0: Looks and Syms stand in any order, and more than once.
func AnyTable(seed *Seed, rows int) api.Table {
	var t api.Table
	for range seed.Below(rows + 1) {
		var r api.Row
		for range seed.Below(5) {
			a := api.Act{Look: seed.Below(5) - 1, To: seed.Below(6) - 2, Accept: seed.Below(3) == 0}
			for range seed.Below(4) {
				a.Reduce = append(a.Reduce, seed.Below(5)-1)
			}
			r.Acts = append(r.Acts, a)
		}
		for range seed.Below(5) {
			r.Goes = append(r.Goes, api.Go{Sym: seed.Below(6) - 1, To: seed.Below(6) - 1})
		}
		t.Rows = append(t.Rows, r)
	}
	return t
}

// RoomyTable is tables in memory of their own, with room behind their lists, so that one that grows in place is seen.
func RoomyTable(t api.Table) api.Table {
	made := api.Table{Rows: RoomyList(t.Rows)}
	for i, r := range t.Rows {
		row := api.Row{Acts: RoomyList(r.Acts), Goes: RoomyList(r.Goes)}
		for k, a := range r.Acts {
			row.Acts[k].Reduce = RoomyList(a.Reduce)
		}
		made.Rows[i] = row
	}
	return made
}

// TableRoomStays tells whether what lies behind the lists is as RoomyTable left it.
func TableRoomStays(t api.Table) bool {
	for _, r := range t.Rows {
		if !rowRoomStays(r) {
			return false
		}
	}
	for _, behind := range t.Rows[len(t.Rows):cap(t.Rows)] {
		if behind.Acts != nil || behind.Goes != nil {
			return false
		}
	}
	return true
}

func rowRoomStays(r api.Row) bool {
	for _, a := range r.Acts {
		if !roomStays(a.Reduce) {
			return false
		}
	}
	for _, behind := range r.Acts[len(r.Acts):cap(r.Acts)] {
		if behind.Look != 0 || behind.To != 0 || behind.Reduce != nil || behind.Accept {
			return false
		}
	}
	return roomStays(r.Goes)
}
