package table

import (
	"fmt"
	"reflect"
	"testing"

	"bramble/api"
	"bramble/sample"
)

// callAll calls everything with a plain grammar and tables.
func callAll(f api.Flat, a, b api.Table) {
	Build(f)
	Fit(f, a)
	Fit(f, b)
	Torn(a)
	Encode(a)
	Same(a, b)
	Same(b, a)
	for state := -1; state <= len(a.Rows); state++ {
		for n := -1; n < 9; n++ {
			Act(a, state, n)
			Go(a, state, n)
		}
	}
}

// 0.5: what a call is given is as it was, and so is what lies behind it.
func TestArgumentsStay(t *testing.T) {
	seed := sample.Seed(37)
	for _, c := range buildCases() {
		was := plain(t, c.terms, c.nons, c.prods)
		f := sample.RoomyFlat(was)
		for _, given := range []api.Table{sample.TableOf(f, c.want), sample.FitTable(&seed, f, 3), sample.AnyTable(&seed, 4)} {
			table, other := sample.RoomyTable(given), sample.RoomyTable(sample.TableOf(f, c.want))
			callAll(f, table, other)
			if !reflect.DeepEqual(table, sample.RoomyTable(given)) || !sample.TableRoomStays(table) {
				t.Errorf("%s: the tables have changed", c.what)
			}
			if !reflect.DeepEqual(other, sample.RoomyTable(sample.TableOf(f, c.want))) || !sample.TableRoomStays(other) {
				t.Errorf("%s: the other tables have changed", c.what)
			}
		}
		if !reflect.DeepEqual(f, sample.RoomyFlat(was)) || !sample.FlatRoomStays(f) {
			t.Errorf("%s: the plain grammar has changed", c.what)
		}
	}
}

// spoilAct writes over what is Reduce, and behind it.
func spoilAct(a api.Act) {
	l := a.Reduce[:cap(a.Reduce)]
	for i := range l {
		l[i] = 77
	}
}

// spoil writes over tables, and behind their lists.
func spoil(t api.Table) {
	for _, r := range t.Rows {
		for _, a := range r.Acts {
			spoilAct(a)
		}
		clear(r.Acts[:cap(r.Acts)])
		clear(r.Goes[:cap(r.Goes)])
	}
	clear(t.Rows[:cap(t.Rows)])
}

// holdApart fails where lists of tables share memory: what is written behind one of them is seen in another one.
func holdApart(t *testing.T, what string, table api.Table) {
	t.Helper()
	was := fmt.Sprint(table)
	for _, r := range table.Rows {
		for _, a := range r.Acts {
			_ = append(a.Reduce, 77)
		}
		_ = append(r.Acts, api.Act{Look: 77})
		_ = append(r.Goes, api.Go{Sym: 77})
	}
	_ = append(table.Rows, api.Row{Acts: []api.Act{{Look: 77}}})
	if after := fmt.Sprint(table); after != was {
		t.Errorf("%s: %s, not %s", what, after, was)
	}
	numbers := numbersIn(table)
	for i, number := range numbers {
		*number = i + 1000
	}
	for i, number := range numbersIn(table) {
		if *number != i+1000 {
			t.Fatalf("%s: two numbers share their memory", what)
		}
	}
}

// What was told once may be written over: nothing that was given, is told later, or stands beside it changes.
func TestAnswersShareNothing(t *testing.T) {
	for _, c := range buildCases() {
		f := plain(t, c.terms, c.nons, c.prods)
		want := sample.TableOf(f, c.want)
		s := Encode(want)
		for range 2 {
			built, _ := Build(f)
			holdApart(t, c.what, built)
			spoil(built)
			read, _ := Decode(s)
			holdApart(t, c.what, read)
			spoil(read)
		}
		built, _ := Build(f)
		read, err := Decode(s)
		if err != api.OK || !Same(built, want) || !Same(read, want) {
			t.Errorf("%s: %v, %v, not %v", c.what, built, read, want)
		}
		for state := range built.Rows {
			for look := range len(f.Terms) + 1 {
				spoilAct(Act(built, state, look))
			}
		}
		for _, pair := range Torn(built) {
			pair[0], pair[1] = 77, 77
		}
		if !Same(built, want) {
			t.Errorf("%s: what was given is %v, not %v", c.what, built, want)
		}
	}
}

// What was given may be written over: nothing that was told changes.
func TestAnswersKeepNothing(t *testing.T) {
	for _, c := range buildCases() {
		f := plain(t, c.terms, c.nons, c.prods)
		want := sample.TableOf(f, c.want)
		given, _ := Build(f)
		var acts []api.Act
		for state, r := range given.Rows {
			for _, a := range r.Acts {
				acts = append(acts, Act(given, state, a.Look))
			}
		}
		torn, s := Torn(given), Encode(given)
		before := fmt.Sprint(acts, torn)
		built, _ := Build(f)
		for i, p := range f.Prods {
			clear(p.Right)
			f.Prods[i] = api.Prod{}
		}
		spoil(given)
		if after := fmt.Sprint(acts, torn); after != before || s != Encode(want) || !Same(built, want) {
			t.Errorf("%s: %s, not %s; %q; %v", c.what, after, before, s, built)
		}
	}
}
