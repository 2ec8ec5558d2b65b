package glr

import (
	"math"
	"slices"
	"testing"

	"bramble/api"
	"bramble/gss"
	"bramble/sample"
	"bramble/table"
)

// tower is tables by which so many states stand upon one another at each place ahead of x and at the end, each upon the one below it by a production without items: by x all of them come to state 0, by y to one in which nothing is done. With all, they stand so ahead of y, too; with more, one more state stands upon them at the end. Each state is Accept.
func tower(many int, all, more bool) (api.Flat, api.Table) {
	f := sample.FlatOf("x y", "a", "a ->")
	var t api.Table
	up := []int{0}
	for state := range many + 2 {
		x, y, end := api.Act{Look: 0}, api.Act{Look: 1, To: many}, api.Act{Look: 2, To: -1, Accept: true}
		if state < many-1 {
			x.Reduce, end.Reduce = up, up
		}
		if state < many-1 && all {
			y.Reduce = up
		}
		if state == many-1 && more {
			end.Reduce = up
		}
		r := api.Row{Acts: []api.Act{x, y, end}, Goes: []api.Go{{Sym: 2, To: state + 1}}}
		if state >= many {
			r = api.Row{Acts: []api.Act{{Look: 2, To: -1, Accept: true}}}
		}
		if state == many-1 {
			r.Goes[0].To = many + 1
		}
		t.Rows = append(t.Rows, r)
	}
	return f, t
}

// towers is the stack of such tables: all states at each of some places.
func towers(many, places int) api.Gss {
	var g api.Gss
	for at := range places {
		for state := range many {
			node := api.Gnode{State: state, At: at}
			switch {
			case state > 0:
				node.Links = []int{len(g.Nodes) - 1}
			case at > 0:
				for link := len(g.Nodes) - many; link < len(g.Nodes); link++ {
					node.Links = append(node.Links, link)
				}
			}
			g.Nodes = append(g.Nodes, node)
		}
	}
	return g
}

// P17.1: stacks up to just 4096 nodes.
func TestMostNodes(t *testing.T) {
	for _, c := range []struct{ many, places int }{{1, 41}, {2, 41}, {64, 41}, {99, 41}, {100, 40}, {128, 31}, {128, 32}, {256, 16}, {512, 8}, {598, 6}} {
		f, tables := tower(c.many, false, false)
		if !table.Fit(f, tables) {
			t.Fatalf("%v: not Fit", c)
		}
		l := make([]int, c.places-1)
		got, err := Run(f, tables, l)
		if want := towers(c.many, c.places); err != api.OK || !gss.Same(got, want) {
			t.Errorf("%v: %d nodes, %v, not %d", c, len(got.Nodes), err, len(want.Nodes))
		}
		if !Accepts(f, tables, l) || Alive(f, tables, l) != len(l) {
			t.Errorf("%v: %v, %d", c, Accepts(f, tables, l), Alive(f, tables, l))
		}
	}
}

// P17.1, P17.2, P17.3: one node more, and many more, by a reduction and by a shift, at the end and ahead of it.
func TestTooManyNodes(t *testing.T) {
	xs := make([]int, 40)
	for _, c := range []struct {
		what      string
		many      int
		all, more bool
		l         []int
		err       api.Errno
		next      []int
	}{
		{"3968, just 4096 behind x", 128, false, false, xs[:30], api.OK, []int{0, 1}},
		{"just 4096, 4224 behind x, few behind y", 128, false, false, xs[:31], api.OK, []int{1}},
		{"just 4096, 4224 behind x, 4097 behind y", 128, true, false, xs[:31], api.OK, nil},
		{"4097 by a reduction at the end, few behind y", 128, false, true, xs[:31], api.ErrMany, []int{1}},
		{"4097 by a reduction at the end, 4097 behind y", 128, true, true, xs[:31], api.ErrMany, nil},
		{"3969, 4097 behind x at the end alone, few behind y", 128, false, true, xs[:30], api.OK, []int{1}},
		{"few at the end, though there were 4097 if it ended ahead of y", 128, false, true, append(make([]int, 31), 1), api.OK, nil},
		{"4097 by a reduction, few behind y", 241, false, false, xs[:16], api.ErrMany, []int{1}},
		{"3856, 4097 behind x, few behind y", 241, false, false, xs[:15], api.OK, []int{1}},
		{"4095, 4200 behind x, just 4096 behind y", 105, true, false, xs[:38], api.OK, []int{1}},
		{"just 4096 by a shift", 105, true, false, append(make([]int, 38), 1), api.OK, nil},
		{"4097 by a shift", 128, true, false, append(make([]int, 31), 1), api.ErrMany, nil},
		{"4097 by a shift, and more behind it", 128, true, false, append(make([]int, 31), 1, 0, 0), api.ErrMany, nil},
		{"4097 by a shift, ahead of what is no terminal", 128, false, false, append(make([]int, 32), -1), api.ErrMany, nil},
		{"3969, as nothing is done ahead of what is no terminal", 128, false, false, append(make([]int, 31), 2), api.OK, nil},
		{"4224", 128, false, false, xs[:32], api.ErrMany, nil},
		{"many more", 128, false, false, xs, api.ErrMany, nil},
		{"3588", 598, false, false, xs[:5], api.OK, []int{1}},
		{"4186, few behind y", 598, false, false, xs[:6], api.ErrMany, []int{1}},
		{"4784", 598, false, false, xs[:7], api.ErrMany, nil},
	} {
		f, tables := tower(c.many, c.all, c.more)
		if !table.Fit(f, tables) {
			t.Fatalf("%s: not Fit", c.what)
		}
		got, err := Run(f, tables, c.l)
		if err != c.err || (err == api.OK) != (len(got.Nodes) > 0) || len(got.Nodes) > 4096 {
			t.Errorf("%s: %d nodes, %v", c.what, len(got.Nodes), err)
		}
		alive := len(c.l)
		switch {
		case err != api.OK:
			alive = 0
		case c.l[alive-1] == 2:
			alive--
		}
		if got := Alive(f, tables, c.l); got != alive {
			t.Errorf("%s: Alive: %d, not %d", c.what, got, alive)
		}
		if got := Accepts(f, tables, c.l); got != (err == api.OK && alive == len(c.l)) {
			t.Errorf("%s: Accepts: %v", c.what, got)
		}
		if got := Next(f, tables, c.l); !slices.Equal(got, c.next) {
			t.Errorf("%s: Next: %v, not %v", c.what, got, c.next)
		}
	}
}

// dense is tables of so many states by which each node links to all that there are, by productions of every length.
func dense(states, prods, items int) (api.Flat, api.Table) {
	f := sample.Symbols(1, prods)
	var all []int
	for prod := range prods {
		f.Prods = append(f.Prods, api.Prod{Left: 1 + prod, Right: slices.Repeat(sample.Items(0), prod%(items+1))})
		all = append(all, prod)
	}
	var t api.Table
	for state := range states {
		r := api.Row{Acts: []api.Act{{Look: 0, To: state, Reduce: all}, {Look: 1, To: -1, Reduce: all}}}
		for prod := range prods {
			r.Goes = append(r.Goes, api.Go{Sym: 1 + prod, To: prod % states})
		}
		t.Rows = append(t.Rows, r)
	}
	return f, t
}

// P17.1: as many links as can be, back by up to 64 of them.
func TestDenseStacks(t *testing.T) {
	for _, c := range []struct{ states, prods, items, row int }{{3, 12, 3, 3}, {8, 40, 4, 6}, {20, 400, 64, 5}, {50, 400, 3, 9}, {100, 300, 2, 9}} {
		f, tables := dense(c.states, c.prods, c.items)
		if !table.Fit(f, tables) {
			t.Fatalf("%v: not Fit", c)
		}
		got, err := Run(f, tables, make([]int, c.row))
		want := sample.StackOfMany(c.states*(c.row+1), c.states, 1)
		for number, node := range want.Nodes {
			for link := range c.states * (node.At + 1) {
				want.Nodes[number].Links = append(want.Nodes[number].Links, link)
			}
		}
		if err != api.OK || !gss.Same(got, want) {
			t.Errorf("%v: %d nodes, %v", c, len(got.Nodes), err)
		}
	}
}

// oddTables is tables with something that no plain grammar's have, and some that can be.
func oddTables() []api.Table {
	far := []int{math.MinInt, math.MinInt32, -65536, -2, -1, 0, 1, 2, 65535, 65536, 1 << 32, math.MaxInt - 1, math.MaxInt}
	all := []api.Table{{}, {Rows: []api.Row{}}, {Rows: make([]api.Row, 1)}, {Rows: make([]api.Row, 100000)}}
	var r api.Row
	for _, n := range far {
		r.Acts = append(r.Acts, api.Act{Look: n, To: n, Reduce: far, Accept: n%2 == 0}, api.Act{Look: n, To: n})
		r.Goes = append(r.Goes, api.Go{Sym: n, To: n}, api.Go{Sym: n})
		all = append(all, api.Table{Rows: []api.Row{r}}, api.Table{Rows: []api.Row{r, r, r}})
	}
	for _, to := range far {
		var r api.Row
		for look := range 4 {
			r.Acts = append(r.Acts, api.Act{Look: look, To: to, Reduce: []int{0, 1, 2}})
			r.Goes = append(r.Goes, api.Go{Sym: look, To: to})
		}
		all = append(all, api.Table{Rows: []api.Row{r, r, r}})
	}
	return all
}

// callAll calls everything with a plain grammar, tables and a row.
func callAll(f api.Flat, t api.Table, l []int) {
	Run(f, t, l)
	Accepts(f, t, l)
	Alive(f, t, l)
	Next(f, t, l)
}

// holdOdd fails where there is a node of what is no state, or a number that is no terminal is passed, though tables have them.
func holdOdd(t *testing.T, f api.Flat, odd api.Table) {
	t.Helper()
	g, err := Run(f, odd, []int{0, 0})
	if err != api.OK && err != api.ErrMany {
		t.Errorf("%v", err)
	}
	for _, node := range g.Nodes {
		if node.State < 0 || node.State > 0 && node.State >= len(odd.Rows) {
			t.Errorf("%v: %v", odd, g)
		}
	}
	for _, n := range []int{math.MinInt, -1, len(f.Terms), 1 << 32, math.MaxInt} {
		if g, err := Run(f, odd, []int{n, 0}); err != api.OK || !gss.Same(g, gss.New(0)) {
			t.Errorf("%v: ahead of %d: %v, %v", odd, n, g, err)
		}
	}
}

// 0.1: whatever a call is given, it ends.
func TestOdd(t *testing.T) {
	t.Parallel()
	far := []int{math.MinInt, -1, 0, 1, 600, math.MaxInt}
	rows := [][]int{nil, {0}, {1}, far, {0, 0, 0, 2}, make([]int, 40), make([]int, 41)}
	tables := oddTables()
	seed := sample.Seed(178)
	for range 20 {
		tables = append(tables, sample.AnyTable(&seed, 4))
	}
	for _, f := range sample.OddFlats() {
		if len(f.Terms) > 1000 || len(f.Prods) > 1000 {
			continue
		}
		for _, odd := range tables {
			for _, l := range rows {
				callAll(f, odd, l)
			}
			holdOdd(t, f, odd)
		}
	}
}

// 0.1: plain grammars and tables that are far too great.
func TestOddGreat(t *testing.T) {
	great := api.Row{Acts: make([]api.Act, 100000), Goes: make([]api.Go, 100000)}
	great.Acts[0].Reduce = make([]int, 100000)
	callAll(sample.FlatOf("x", "a", "a ->"), api.Table{Rows: []api.Row{great}}, make([]int, 40))
	for _, f := range sample.OddFlats() {
		if len(f.Terms) <= 1000 && len(f.Prods) <= 1000 {
			continue
		}
		var all []int
		for prod := range f.Prods {
			all = append(all, prod)
		}
		end := len(f.Terms)
		row := api.Row{Acts: []api.Act{{Look: 0, To: 1, Reduce: all}}, Goes: []api.Go{{Sym: 0, To: 1}, {Sym: end, To: 0}}}
		if end > 0 {
			row.Acts = append(row.Acts, api.Act{Look: end, To: -1, Reduce: all, Accept: true})
		}
		callAll(f, api.Table{Rows: []api.Row{row, row}}, []int{0, 0, 0})
	}
}

// 0.1: rows far longer than may be parsed: there is a node at each place, so that there are too many soon.
func TestLongRows(t *testing.T) {
	t.Parallel()
	f := plain(t, "x", "a", "a -> a a; a -> x")
	for _, tables := range []api.Table{built(t, f), tablesOf(t, f, "x>0 $! a=0"), tablesOf(t, f, "x>0/0,1 $/0,1! a=0")} {
		if !Accepts(f, tables, make([]int, 80)) || Alive(f, tables, make([]int, 80)) != 80 {
			t.Error("80 terminals are not taken")
		}
		if g, err := Run(f, tables, make([]int, 1<<20)); err != api.ErrMany || g.Nodes != nil {
			t.Errorf("%d nodes, %v", len(g.Nodes), err)
		}
	}
	single := tablesOf(t, f, "x>0 $! a=0")
	if g, err := Run(f, single, make([]int, 4095)); err != api.OK || len(g.Nodes) != 4096 {
		t.Errorf("%d nodes, %v", len(g.Nodes), err)
	}
	if _, err := Run(f, single, make([]int, 4096)); err != api.ErrMany || Next(f, single, make([]int, 1<<20)) != nil {
		t.Errorf("%v", err)
	}
}

// 0.3, 0.7: where nothing is told, there is none.
func TestNothing(t *testing.T) {
	f := plain(t, "x", "a", "a -> x")
	tables := built(t, f)
	if got := Next(f, tables, []int{0}); got != nil {
		t.Errorf("%v", got)
	}
	if got := Next(f, tables, []int{1}); got != nil {
		t.Errorf("%v", got)
	}
	if got, err := Run(f, tables, []int{}); err != api.OK || len(got.Nodes) != 1 || got.Nodes[0].Links != nil {
		t.Errorf("%v, %v", got, err)
	}
}
