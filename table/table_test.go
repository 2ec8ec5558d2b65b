package table

import (
	"math"
	"slices"
	"testing"

	"bramble/api"
	"bramble/sample"
)

// unlike is tables of which no two are the same: most differ from the first in one field alone.
func unlike() []api.Table {
	base := func() api.Table {
		return api.Table{Rows: []api.Row{
			{Acts: []api.Act{{Look: 1, To: 2, Reduce: []int{3, 4}}, {Look: 5, To: 6}}, Goes: []api.Go{{Sym: 7, To: 8}, {Sym: 9, To: 10}}},
			{Acts: []api.Act{{Look: 11, To: 12, Reduce: []int{13}, Accept: true}}},
			{Goes: []api.Go{{Sym: 14, To: 15}}},
		}}
	}
	all := []api.Table{base(), {}}
	for i := range numbersIn(base()) {
		for _, by := range []int{1, -1, 256, 65536, 1 << 32} {
			t := base()
			*numbersIn(t)[i] += by
			all = append(all, t)
		}
	}
	for _, change := range []func(api.Table) api.Table{
		func(t api.Table) api.Table { t.Rows[0].Acts[0].Accept = true; return t },
		func(t api.Table) api.Table { t.Rows[1].Acts[0].Accept = false; return t },
		func(t api.Table) api.Table { t.Rows[0].Acts[0].Reduce = []int{3}; return t },
		func(t api.Table) api.Table { t.Rows[0].Acts[0].Reduce = nil; return t },
		func(t api.Table) api.Table { t.Rows[0].Acts[0].Reduce = []int{3, 4, 0}; return t },
		func(t api.Table) api.Table { t.Rows[0].Acts[1].Reduce = []int{0}; return t },
		func(t api.Table) api.Table { t.Rows[0].Acts = t.Rows[0].Acts[:1]; return t },
		func(t api.Table) api.Table { t.Rows[0].Acts = t.Rows[0].Acts[1:]; return t },
		func(t api.Table) api.Table { t.Rows[1].Acts = nil; return t },
		func(t api.Table) api.Table { t.Rows[2].Acts = []api.Act{{}}; return t },
		func(t api.Table) api.Table { slices.Reverse(t.Rows[0].Acts); return t },
		func(t api.Table) api.Table { t.Rows[0].Goes = t.Rows[0].Goes[:1]; return t },
		func(t api.Table) api.Table { t.Rows[2].Goes = nil; return t },
		func(t api.Table) api.Table { t.Rows[1].Goes = []api.Go{{}}; return t },
		func(t api.Table) api.Table { slices.Reverse(t.Rows[0].Goes); return t },
		func(t api.Table) api.Table { t.Rows = t.Rows[:2]; return t },
		func(t api.Table) api.Table { t.Rows = t.Rows[1:]; return t },
		func(t api.Table) api.Table { t.Rows = append(t.Rows, api.Row{}); return t },
		func(t api.Table) api.Table { slices.Reverse(t.Rows); return t },
	} {
		all = append(all, change(base()))
	}
	return all
}

// P12.1: Same.
func TestSame(t *testing.T) {
	all, again := unlike(), unlike()
	for i, a := range all {
		for k, b := range again {
			if Same(a, b) != (i == k) {
				t.Errorf("%v and %v: Same is %v", a, b, i != k)
			}
		}
	}
}

// An empty list is none.
func TestSameOfEmpty(t *testing.T) {
	none := api.Table{Rows: []api.Row{{Acts: []api.Act{{}}}, {}}}
	empty := api.Table{Rows: []api.Row{{Acts: []api.Act{{Reduce: []int{}}}, Goes: []api.Go{}}, {Acts: []api.Act{}, Goes: []api.Go{}}}}
	if !Same(none, empty) || !Same(empty, none) || !Same(api.Table{}, api.Table{Rows: []api.Row{}}) {
		t.Error("an empty list is not none")
	}
	if Encode(none) != Encode(empty) {
		t.Error("an empty list is written otherwise than none")
	}
}

// P12.3: Act.
func TestAct(t *testing.T) {
	f := plain(t, "x y z", "a", "a -> x")
	table := sample.TableOf(f, "x>2 y/0,2 $/1! | z>0/1 x>1 z/7 -1/5 x | -3>-7 | |")
	for _, c := range []struct {
		state, look int
		want        string
	}{
		{0, 0, "x>2"},
		{0, 1, "y/0,2"},
		{0, 3, "$/1!"},
		{0, 2, "z"},
		{0, 4, "4"},
		{0, -1, "-1"},
		{0, math.MaxInt, "9223372036854775807"},
		{0, math.MinInt, "-9223372036854775808"},
		{1, 2, "z>0/1"},
		{1, 0, "x>1"},
		{1, -1, "-1/5"},
		{1, 1, "y"},
		{2, -3, "-3>-7"},
		{2, 0, "x"},
		{3, 0, "x"},
		{4, 3, "$"},
		{5, 0, "x"},
		{5, 3, "$"},
		{6, 0, "x"},
		{-1, 0, "x"},
		{-1, 3, "$"},
		{-1, -1, "-1"},
		{-5, 1, "y"},
		{math.MaxInt, 1, "y"},
		{math.MinInt, 3, "$"},
	} {
		want := sample.TableOf(f, c.want).Rows[0].Acts[0]
		got := Act(table, c.state, c.look)
		if !sameAct(got, want) {
			t.Errorf("state %d ahead of %d: %v, not %v", c.state, c.look, got, want)
		}
		if got = Act(api.Table{}, c.state, c.look); !sameAct(got, api.Act{Look: c.look, To: -1}) {
			t.Errorf("of no tables: %v", got)
		}
	}
}

// Of several Acts of one Look the first one counts, also where it does nothing.
func TestActOfSeveral(t *testing.T) {
	first := api.Act{Look: 1, To: -1}
	table := api.Table{Rows: []api.Row{{Acts: []api.Act{{Look: 0, To: 4}, first, {Look: 1, To: 2, Reduce: []int{3}, Accept: true}, {Look: 0}}}}}
	if got := Act(table, 0, 1); !sameAct(got, first) {
		t.Errorf("%v", got)
	}
	if got := Act(table, 0, 0); got.To != 4 {
		t.Errorf("%v", got)
	}
	table.Rows[0].Acts[1].Reduce = []int{}
	if got := Act(table, 0, 1); got.Reduce != nil || !sameAct(got, first) {
		t.Errorf("%v", got)
	}
}

// P12.3: Go.
func TestGo(t *testing.T) {
	f := plain(t, "x y", "a b", "a -> x")
	table := sample.TableOf(f, "x>3 y>9 x=1 a=0 b=4 | b=2 x=3 b=7 -1=8 x=9 | a=-5 y=-1 | $!")
	for _, c := range []struct{ state, sym, want int }{
		{0, 0, 1}, {0, 2, 0}, {0, 3, 4}, {0, 1, -1}, {0, 4, -1}, {0, -1, -1}, {0, math.MaxInt, -1}, {0, math.MinInt, -1},
		{1, 3, 2}, {1, 0, 3}, {1, -1, 8}, {1, 1, -1},
		{2, 2, -5}, {2, 1, -1}, {2, 0, -1},
		{3, 0, -1}, {3, 2, -1},
		{4, 0, -1}, {4, 3, -1}, {5, 0, -1}, {-1, 0, -1}, {-1, -1, -1}, {-4, 0, -1}, {math.MaxInt, 0, -1}, {math.MinInt, 0, -1},
	} {
		if got := Go(table, c.state, c.sym); got != c.want {
			t.Errorf("state %d by %d: %d, not %d", c.state, c.sym, got, c.want)
		}
		if got := Go(api.Table{}, c.state, c.sym); got != -1 {
			t.Errorf("of no tables: %d", got)
		}
	}
}

// P12.4.
func TestTorn(t *testing.T) {
	f := plain(t, "x y z", "a", "a -> x")
	for _, c := range []struct {
		what, table string
		want        [][2]int
	}{
		{"no Acts", "", nil},
		{"no Acts, in rows", "x=1 | y=2", nil},
		{"To alone", "x>0", nil},
		{"To of any state", "x>5", nil},
		{"one Reduce", "x/0", nil},
		{"Accept", "$!", nil},
		{"To and Accept", "$>0!", nil},
		{"nothing", "x", nil},
		{"To below -1 alone", "x>-2", nil},
		{"To and a Reduce", "x>0/0", [][2]int{{0, 0}}},
		{"To and two Reduce", "y>1/0,1", [][2]int{{0, 1}}},
		{"To below -1 and a Reduce", "y>-2/4", [][2]int{{0, 1}}},
		{"two Reduce", "z/0,1", [][2]int{{0, 2}}},
		{"three Reduce", "z/0,1,2", [][2]int{{0, 2}}},
		{"one Reduce and Accept", "$/0!", [][2]int{{0, 3}}},
		{"two Reduce and Accept", "$/0,1!", [][2]int{{0, 3}}},
		{"To, one Reduce and Accept", "$>0/1!", [][2]int{{0, 3}}},
		{"a Reduce there twice", "x/1,1", [][2]int{{0, 0}}},
		{"several, in order", "x>0 y>0/0 $/0! | | x/0,1 y/0 z>2/2 | $/3,4", [][2]int{{0, 1}, {0, 3}, {2, 0}, {2, 2}, {3, 3}}},
		{"Looks that are none", "-4/0,1 9>0/0", [][2]int{{0, -4}, {0, 9}}},
		{"as they stand", "z/0,1 x/0,1 | y/0,1", [][2]int{{0, 2}, {0, 0}, {1, 1}}},
		{"Acts of two Looks, Goes alike", "x>0 y/0 x=0 y=0", nil},
	} {
		if got := Torn(sample.TableOf(f, c.table)); !slices.Equal(got, c.want) {
			t.Errorf("%s: %v, not %v", c.what, got, c.want)
		}
	}
	if got := Torn(api.Table{}); len(got) > 0 {
		t.Errorf("of no tables: %v", got)
	}
}

// What is told of drawn tables is what stands in them.
func TestDrawn(t *testing.T) {
	seed := sample.Seed(33)
	for range 5000 {
		table := sample.AnyTable(&seed, 3)
		var torn [][2]int
		for state := -1; state <= len(table.Rows); state++ {
			looks, syms := map[int]api.Act{}, map[int]int{}
			if state >= 0 && state < len(table.Rows) {
				for _, a := range table.Rows[state].Acts {
					n := len(a.Reduce)
					if a.To != -1 && n > 0 || n >= 2 || n == 1 && a.Accept {
						torn = append(torn, [2]int{state, a.Look})
					}
					if _, met := looks[a.Look]; !met {
						looks[a.Look] = a
					}
				}
				for _, g := range table.Rows[state].Goes {
					if _, met := syms[g.Sym]; !met {
						syms[g.Sym] = g.To
					}
				}
			}
			for n := -2; n < 7; n++ {
				act, found := looks[n]
				if !found {
					act = api.Act{Look: n, To: -1}
				}
				to, found := syms[n]
				if !found {
					to = -1
				}
				if got := Act(table, state, n); !sameAct(got, act) {
					t.Fatalf("%v: state %d ahead of %d: %v, not %v", table, state, n, got, act)
				}
				if got := Go(table, state, n); got != to {
					t.Fatalf("%v: state %d by %d: %d, not %d", table, state, n, got, to)
				}
			}
		}
		if got := Torn(table); !slices.Equal(got, torn) {
			t.Fatalf("%v: Torn is %v, not %v", table, got, torn)
		}
	}
}
