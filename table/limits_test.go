package table

import (
	"math"
	"slices"
	"testing"

	"bramble/api"
	"bramble/flat"
	"bramble/gram"
	"bramble/sample"
)

// made is the plain grammar of a grammar's text.
func made(t *testing.T, s string) api.Flat {
	t.Helper()
	g, line, fault := gram.Parse(s)
	f, err := flat.Make(g)
	if fault.Err != api.OK || err != api.OK {
		t.Fatalf("%q: line %d, %v; %v", s, line, fault, err)
	}
	return f
}

// P12.1: just 600 states, and more.
func TestBuildOfManyStates(t *testing.T) {
	for _, again := range []bool{false, true} {
		for _, many := range []int{2, 3, 66, 255, 256, 257, 599, 600} {
			f := sample.FlatOfSets(many, again)
			mustFit(t, f)
			built, err := Build(f)
			if err != api.OK || len(built.Rows) != many {
				t.Fatalf("%d rows, %v, not %d", len(built.Rows), err, many)
			}
			holdFollows(t, f, built)
		}
		for _, many := range []int{601, 602, 700, 5000} {
			f := sample.FlatOfSets(many, again)
			mustFit(t, f)
			if built, err := Build(f); err != api.ErrMany || built.Rows != nil {
				t.Errorf("%d rows, %v, of %d", len(built.Rows), err, many)
			}
		}
	}
}

// Of 600 states each leads to the one that has a row's next item.
func TestBuildOfManyStatesLeads(t *testing.T) {
	f := sample.FlatOfSets(600, false)
	built, _ := Build(f)
	inner, met := len(f.Terms)-1, map[int]int{}
	for prod, p := range f.Prods {
		state := Act(built, 0, prod).To
		for range len(p.Right) - 1 {
			met[state]++
			state = Act(built, state, inner).To
		}
		met[state]++
		if a := Act(built, state, len(f.Terms)); !slices.Equal(a.Reduce, []int{prod}) || a.To != -1 || a.Accept {
			t.Errorf("behind production %d: state %d, %v", prod, state, a)
		}
	}
	if len(met) != 598 || met[0] != 0 || met[-1] != 0 || !Act(built, Go(built, 0, len(f.Terms)), len(f.Terms)).Accept {
		t.Errorf("%d states are led to", len(met))
	}
}

// Some 480000 items; each terminal is a Look of each production.
func TestBuildOfManyItems(t *testing.T) {
	f := sample.LeftOnes()
	mustFit(t, f)
	built, err := Build(f)
	if err != api.OK || len(built.Rows) != 401 || !Fit(f, built) || len(Torn(built)) > 0 {
		t.Fatalf("%d rows, %v", len(built.Rows), err)
	}
	for look := range 400 {
		if a := Act(built, 0, look); a.To != -1 || !slices.Equal(a.Reduce, []int{399}) || a.Accept {
			t.Fatalf("the first state: %v", a)
		}
		if a := Act(built, 1, look); len(a.Reduce) > 0 || a.Accept != (look == 399) || (a.To != 2+look) != (look == 399) {
			t.Fatalf("behind the whole: %v", a)
		}
		for term := range 399 {
			if a := Act(built, 2+term, look); a.To != -1 || !slices.Equal(a.Reduce, []int{term}) || a.Accept {
				t.Fatalf("behind terminal %d: %v", term, a)
			}
		}
	}
	holdThereAndBack(t, built)
}

// 400 productions end ahead of one Look, beside Accept, and beside what is shifted.
func TestBuildOfManyReduce(t *testing.T) {
	all := make([]int, 399)
	for i := range all {
		all[i] = i
	}
	f := sample.Symbols(1, 1)
	f.Prods = append(slices.Repeat([]api.Prod{{Left: 1, Right: sample.Items(1)}}, 399), api.Prod{Left: 1, Right: sample.Items(0)})
	mustFit(t, f)
	built, err := Build(f)
	want := api.Act{Look: 1, To: -1, Reduce: all, Accept: true}
	if err != api.OK || len(built.Rows) != 3 || !sameAct(Act(built, 2, 1), want) {
		t.Errorf("%v, %v", built, err)
	}
	holdThereAndBack(t, built)
	f.Prods = append(slices.Repeat([]api.Prod{{Left: 1}}, 399), api.Prod{Left: 1, Right: sample.Items(1, 0)})
	mustFit(t, f)
	if built, err = Build(f); err != api.OK || !sameAct(Act(built, 0, 0), api.Act{Look: 0, To: -1, Reduce: all}) {
		t.Errorf("%v, %v", built, err)
	}
}

// States are told apart whatever the numbers are by which alone their sets differ.
func TestBuildKeepsNumbersApart(t *testing.T) {
	for _, far := range []int{1, 2, 127, 128, 255, 256, 257, 511, 512, 590} {
		f := sample.Symbols(597, 2)
		whole, one := 597, 598
		f.Prods = []api.Prod{
			{Left: whole, Right: sample.Items(594, one, 1)},
			{Left: whole, Right: sample.Items(595, one, 1+far)},
			{Left: one, Right: sample.Items(596)},
		}
		mustFit(t, f)
		built, err := Build(f)
		if err != api.OK || len(built.Rows) != 10 {
			t.Fatalf("%d rows, %v", len(built.Rows), err)
		}
		for _, c := range [][2]int{{594, 1}, {595, 1 + far}} {
			state := Act(built, Act(built, 0, c[0]).To, 596).To
			want := []api.Act{{Look: c[1], To: -1, Reduce: []int{2}}}
			if !slices.EqualFunc(built.Rows[state].Acts, want, sameAct) {
				t.Errorf("behind %d: %v, not %v", c[0], built.Rows[state].Acts, want)
			}
		}
	}
}

// 600 symbols, 400 productions.
func TestBuildOfGreatest(t *testing.T) {
	seed := sample.Seed(31)
	many, some := 0, 0
	for _, c := range []struct{ terms, nons int }{{300, 300}, {599, 1}, {0, 600}, {590, 10}, {10, 590}, {30, 30}, {300, 10}} {
		for _, items := range []int{5, 3, 2, 1} {
			f := sample.Flat(&seed, sample.Symbols(c.terms, c.nons), 400, items)
			mustFit(t, f)
			built, err := Build(f)
			if err == api.ErrMany && built.Rows == nil {
				many++
				continue
			}
			if err != api.OK {
				t.Fatalf("%d rows, %v", len(built.Rows), err)
			}
			some++
			holdFollows(t, f, built)
			holdThereAndBack(t, built)
		}
	}
	if many < 2 || some < 10 {
		t.Errorf("%d with too many states, %d others", many, some)
	}
}

// oddTables is tables with something that no plain grammar's have.
func oddTables() []api.Table {
	far := []int{math.MinInt, math.MinInt32, -65536, -2, -1, 0, 65535, 65536, 1 << 32, math.MaxInt - 1, math.MaxInt}
	var r api.Row
	all := []api.Table{{}, {Rows: []api.Row{}}, {Rows: make([]api.Row, 1)}, {Rows: make([]api.Row, 601)}, {Rows: make([]api.Row, 100000)}}
	for _, n := range far {
		r.Acts = append(r.Acts, api.Act{Look: n, To: n, Reduce: far, Accept: n%2 == 0}, api.Act{Look: n, To: n})
		r.Goes = append(r.Goes, api.Go{Sym: n, To: n}, api.Go{Sym: n})
		all = append(all, api.Table{Rows: []api.Row{r}}, api.Table{Rows: []api.Row{{}, r, r}})
	}
	r = api.Row{Acts: make([]api.Act, 100000), Goes: make([]api.Go, 100000)}
	r.Acts[99999].Reduce = make([]int, 100000)
	return append(all, api.Table{Rows: []api.Row{r}})
}

// 0.1: whatever a call is given, it ends.
func TestOdd(t *testing.T) {
	tables := oddTables()
	for _, a := range tables {
		for _, n := range []int{math.MinInt, -1, 0, 1, 600, 99999, 100000, math.MaxInt} {
			for _, m := range []int{math.MinInt, -1, 0, 1, 65536, math.MaxInt} {
				Act(a, n, m)
				Go(a, n, m)
			}
		}
		Torn(a)
		Encode(a)
		for _, b := range tables {
			Same(a, b)
		}
	}
	for _, f := range sample.OddFlats() {
		built, _ := Build(f)
		Fit(f, built)
		for _, odd := range tables {
			Fit(f, odd)
		}
	}
}
