package glr

import (
	"slices"
	"testing"

	"bramble/api"
	"bramble/gss"
	"bramble/sample"
)

// P17.1: stacks written out.
func TestRun(t *testing.T) {
	const one = "x>1 a=2 | $/0 | $!" // behind an x state 1, which is an a ahead of the end
	const eager = "x>1 a=2 | x>1/0 $/0 a=3 | x>1 $! a=0 | x>0"
	for _, c := range []struct{ what, prods, tables, row, want string }{
		{"no terminals", "a -> x", one, "", "0@0"},
		{"a shift, and a reduction at the end", "a -> x", one, "x", "0@0 1@1:0 2@1:0"},
		{"no reduction ahead of another terminal", "a -> x", one, "x x", "0@0 1@1:0"},
		{"nothing is done ahead of the first", "a -> x", one, "y", "0@0"},
		{"nothing is done ahead of the first, whatever comes", "a -> x", one, "y x", "0@0"},

		{"a number below 0 at the first place", "a -> x", one, "-1 x", "0@0"},
		{"the end's number at the first place", "a -> x; a ->", "x>1 $/1 a=2 | $/0 | $!", "2 x", "0@0"},
		{"the end's number alone", "a -> x; a ->", "x>1 $/1 a=2 | $/0 | $!", "2", "0@0"},
		{"the number of one of Nons", "a -> x; a ->", "x>1 $/1 a=2 b=2 | $/0 | $!", "3", "0@0"},
		{"a number below 0 in the middle", "a -> x", one, "x -1 x", "0@0 1@1:0"},
		{"the end's number in the middle", "a -> x", one, "x 2 x", "0@0 1@1:0"},
		{"a number below 0 at the end", "a -> x", one, "x -1", "0@0 1@1:0"},
		{"the end's number at the end", "a -> x", one, "x 2", "0@0 1@1:0"},
		{"a number above all at the end", "a -> x", one, "x 4", "0@0 1@1:0"},
		{"numbers far off", "a -> x", one, "x -9223372036854775808 9223372036854775807", "0@0 1@1:0"},
		{"a number far off", "a -> x", one, "x 9223372036854775807", "0@0 1@1:0"},

		{"a shift and a reduction ahead of one terminal", "a -> x", eager, "x x", "0@0 1@1:0 2@1:0 0@2:2 1@2:1,2 3@2:1"},
		{"two productions at once", "a -> x; b -> x", "x>1 a=2 b=3 | $/0,1 | | ", "x", "0@0 1@1:0 2@1:0 3@1:0"},
		{"two productions at once, to one state", "a -> x; b -> x", "x>1 a=2 b=2 | $/0,1 | | ", "x", "0@0 1@1:0 2@1:0"},
		{"a shift and two productions", "a -> x; b -> x x", "x>1 a=2 b=3 | x>1/0,1 a=2 b=3 | | ", "x x", "0@0 1@1:0 2@1:0 1@2:1"},
		{"a shift by two nodes to one", "a -> x", "x>1 a=2 | x>3/0 | x>3 | ", "x x", "0@0 1@1:0 2@1:0 3@2:1,2"},
		{"productions of unlike length", "a -> x; b -> x x", "x>1 a=2 b=3 | x>1 $/0,1 a=2 b=3 | | ", "x x", "0@0 1@1:0 1@2:1 2@2:1 3@2:0"},
		{"more items than links", "a -> x x x", "x>1 a=2 | x>1 $/0 a=2 | ", "x x", "0@0 1@1:0 1@2:1"},
		{"just as many items as links", "a -> x x x", "x>1 a=2 | x>1 $/0 a=2 | ", "x x x", "0@0 1@1:0 1@2:1 1@3:2 2@3:0"},

		{"a production without items", "a ->", "$/0 a=1 | ", "", "0@0 1@0:0"},
		{"productions without items, one after another", "a ->; b ->", "$/0 a=1 | $/1 b=2 | ", "", "0@0 1@0:0 2@0:1"},
		{"productions without items, at the end", "a ->; b ->", "x>3 | $/1 b=2 | | $/0 a=1", "x", "0@0 1@1:3 2@1:1 3@1:0"},
		{"productions without items, ahead of a terminal", "a ->; b ->", "x/0 a=1 | x/1 b=2 | x>0", "x", "0@0 1@0:0 2@0:1 0@1:2"},
		{"a production whose items all are nothing", "a ->; b -> a a", "$/0 a=1 b=3 | $/0 a=2 | $/1 | $!", "", "0@0 1@0:0 2@0:1 3@0:0"},
		{"a production whose items all are nothing, behind a terminal", "a ->; b -> a a", "x>4 | $/0 a=2 | $/1 | $! | $/0 a=1 b=3", "x", "0@0 1@1:4 2@1:1 3@1:4 4@1:0"},

		{"a node that links to itself", "a ->", "$/0 a=0", "", "0@0:0"},
		{"a node that links to itself, gone back by three links", "a ->; b -> x x x", "$/0,1 a=0 b=1 | ", "", "0@0:0 1@0:0"},
		{"a node that links to itself, behind a terminal", "a ->; b -> x x x", "x>1 b=2 | $/0,1 a=1 | ", "x", "0@0 1@1:0,1 2@1:0"},
		{"two nodes that link to each other", "a ->; b -> x", "$/0 a=1 | $/0 a=0", "", "0@0:1 1@0:0"},
		{"two nodes that link to each other, and one that comes of it", "a ->; b -> x x x", "$/0 a=1 b=2 | $/0,1 a=0 b=3 | | ", "", "0@0:1 1@0:0 2@0:0"},
		{"a new link, behind which it is reduced once more", "a ->; b -> x; c ->", "$/0 a=1 b=1 | $/1,2 b=2 c=1 | ", "", "0@0 1@0:0,1 2@0:1"},
		{"a new link of a node farther behind", "a ->; b ->; c -> x x; d -> x", "$/0 a=1 c=4 | $/1 b=2 c=5 d=1 | $/2,3 | | | ", "", "0@0 1@0:0,1 2@0:1 4@0:0 5@0:1"},

		{"no state to go to", "a -> x", "x>1 b=2 | $/0 a=2 | ", "x", "0@0 1@1:0"},
		{"no state to go to from one of two", "a -> x; b ->", "x>1/1 a=3 b=2 | $/0 | x>1 | ", "x", "0@0 2@0:0 1@1:0,1 3@1:0"},
		{"a state to go to by a terminal plays no part", "a -> x", "x=1 y=1 | ", "x", "0@0"},
		{"it is shifted as Acts say", "a -> x", "x>2 x=1 | | ", "x", "0@0 2@1:0"},
		{"state 0 again", "a -> x", "x>0", "x x", "0@0 0@1:0 0@2:1"},
		{"nodes are by State, not as they come", "a ->; b ->", "$/0 a=2 | | $/1 b=1", "", "0@0 1@0:2 2@0:0"},
		{"links are by number, not as they come", "a ->; b ->", "x/0,1 a=2 b=1 | x>3 | x>3 | ", "x", "0@0 1@0:0 2@0:0 3@1:1,2"},

		{"the chapter's, x + x", "a -> a y a; a -> x", "x>1 a=2 | y/1 $/1 | y>3 $! | x>1 a=4 | y>3/0 $/0", "x y x", "0@0 1@1:0 2@1:0 3@2:2 1@3:3 2@3:0 4@3:3"},
	} {
		f := plain(t, "x y", "a b c d", c.prods)
		tables := tablesOf(t, f, c.tables)
		l := sample.RowOf(f, c.row)
		want := sample.StackOf(c.want)
		if got, err := Run(f, tables, l); err != api.OK || !gss.Same(got, want) {
			t.Errorf("%s: %v, %v, not %v", c.what, got, err, want)
		}
		holdWords(t, f, tables, l)
	}
}

// P17.1: a row of just 40, each terminal upon the one ahead of it, all taken back by one production.
func TestRunOfForty(t *testing.T) {
	f := sample.FlatOf("x", "a", "")
	f.Prods = []api.Prod{{Left: 1, Right: slices.Repeat(sample.Items(0), api.MaxTokens)}}
	tables := tablesOf(t, f, "x>1 a=2 | x>1 $/0 a=2 | $!")
	l := make([]int, api.MaxTokens)
	got, err := Run(f, tables, l)
	var want api.Gss
	for at := range api.MaxTokens + 1 {
		want.Nodes = append(want.Nodes, api.Gnode{State: min(at, 1), At: at, Links: []int{at - 1}})
	}
	want.Nodes[0].Links = nil
	want.Nodes = append(want.Nodes, api.Gnode{State: 2, At: api.MaxTokens, Links: []int{0}})
	if err != api.OK || !gss.Same(got, want) {
		t.Errorf("%v, %v", got, err)
	}
	if !Accepts(f, tables, l) || Alive(f, tables, l) != 40 || !slices.Equal(Next(f, tables, l), []int{0}) {
		t.Errorf("%v, %d, %v", Accepts(f, tables, l), Alive(f, tables, l), Next(f, tables, l))
	}
	if Accepts(f, tables, l[:39]) || Alive(f, tables, l[:39]) != 39 {
		t.Error("39 are taken as well")
	}
}

// P17.1: a production of 64 items, and one of 63, by links that lead from a node to itself.
func TestRunOfManyItems(t *testing.T) {
	for _, items := range []int{1, 2, 62, 63, 64} {
		f := sample.FlatOf("x", "a b", "")
		f.Prods = []api.Prod{{Left: 1, Right: slices.Repeat(sample.Items(0), items)}, {Left: 2}}
		tables := tablesOf(t, f, "$/1 b=1 | $/0,1 a=2 b=1 | ")
		if got, err := Run(f, tables, nil); err != api.OK || !gss.Same(got, sample.StackOf("0@0 1@0:0,1 2@0:1")) {
			t.Errorf("%d items: %v, %v", items, got, err)
		}
		// A way of just so many links, and one that is one link too short.
		for _, far := range []int{items - 1, items, items + 1} {
			chain := api.Table{Rows: make([]api.Row, far+2)}
			for state := range far {
				chain.Rows[state] = api.Row{Acts: []api.Act{{Look: 1, To: -1, Reduce: []int{1}}}, Goes: []api.Go{{Sym: 1, To: far + 1}, {Sym: 2, To: state + 1}}}
			}
			chain.Rows[far].Acts = []api.Act{{Look: 1, To: -1, Reduce: []int{0}}}
			got, err := Run(f, chain, nil)
			if err != api.OK || (gss.Find(got, far+1, 0) >= 0) != (far >= items) {
				t.Errorf("%d items, %d links: %v, %v", items, far, got, err)
			}
			if number := gss.Find(got, far+1, 0); number >= 0 && !slices.Equal(got.Nodes[number].Links, []int{far - items}) {
				t.Errorf("%d items, %d links: %v", items, far, got.Nodes[number])
			}
		}
	}
}

// As Back tells none of more than 64 links, a production of more items, which no fit plain grammar has, leads nowhere.
func TestRunOfTooManyItems(t *testing.T) {
	f := sample.FlatOf("x", "a b", "")
	f.Prods = []api.Prod{{Left: 1, Right: slices.Repeat(sample.Items(0), 65)}, {Left: 2}}
	tables := sample.TableOf(f, "$/1 b=1 | $/0,1 a=2 b=1 | ")
	if got, err := Run(f, tables, nil); err != api.OK || !gss.Same(got, sample.StackOf("0@0 1@0:0,1")) {
		t.Errorf("%v, %v", got, err)
	}
}

// P17.1: every table of few states for some plain grammars, with every row of few terminals.
func TestRunOfEveryTable(t *testing.T) {
	t.Parallel()
	for _, c := range []struct {
		terms, nons, prods string
		states, row        int
		most               int // nodes of a stack
		loops              bool
	}{
		{"x", "a", "a -> x; a ->", 2, 2, 6, true},
		{"x", "a", "a -> x x; a ->", 2, 2, 6, true},
		{"x", "a b", "a -> x; b ->", 1, 4, 5, true},
		{"x", "a b", "a -> x x", 2, 3, 6, false},
		{"", "a b", "a ->; b -> a", 2, 0, 2, true},
		{"", "a", "a ->; a -> a a", 3, 0, 3, true},
		{"x y", "a", "a -> x", 2, 1, 3, false},
		{"x y", "a", "a -> x; a -> x x", 1, 3, 4, false},
	} {
		f := plain(t, c.terms, c.nons, c.prods)
		var terms []int
		for term := range f.Terms {
			terms = append(terms, term)
		}
		rows := sample.Rows(terms, c.row)
		loops, most := 0, 0
		for tables := range sample.Tables(f, c.states) {
			for _, l := range rows {
				p := holdWords(t, f, tables, l)
				for node, links := range p {
					loops += links[node]
				}
				most = max(most, len(p))
			}
		}
		if most != c.most || c.loops != (loops > 0) {
			t.Errorf("%v: at most %d nodes, %d that link to themselves", c, most, loops)
		}
	}
}

// P17.1 to P17.3: drawn tables that are Fit, with drawn rows, numbers in them that are no terminals.
func TestDrawnTables(t *testing.T) {
	seed := sample.Seed(173)
	seen := map[string]int{}
	for i := range 3000 {
		f := sample.Flat(&seed, sample.Symbols(1+seed.Below(3), 1+seed.Below(3)), 1+seed.Below(6), 4)
		tables := sample.BusyTable(&seed, f, 1+seed.Below(6), 2+seed.Below(8))
		if i%4 == 0 {
			tables = sample.FitTable(&seed, f, 1+seed.Below(6))
		}
		l := sample.Row(&seed, f, 7)
		if len(l) > 0 && seed.Below(4) == 0 {
			l[seed.Below(len(l))] = []int{-1, len(f.Terms), len(f.Terms) + 1, 99}[seed.Below(4)]
		}
		p := holdWords(t, f, tables, l)
		switch {
		case acceptsByWords(f, tables, l, p):
			seen["accepted"]++
		case aliveByWords(p) == len(l):
			seen["alive to the end"]++
		default:
			seen["not alive"]++
		}
		for node, links := range p {
			seen["loops"] += links[node]
		}
		if len(p) > 64 {
			seen["more than 64"]++
		}
	}
	for _, what := range []string{"accepted", "alive to the end", "not alive", "loops"} {
		if seen[what] < 300 {
			t.Errorf("%s: %v", what, seen)
		}
	}
}

// P17.1: drawn tables of more states, so that there are hundreds of nodes.
func TestDrawnGreatTables(t *testing.T) {
	seed := sample.Seed(174)
	great := 0
	for range 60 {
		f := sample.Flat(&seed, sample.Symbols(2, 4), 10, 5)
		tables := sample.BusyTable(&seed, f, 20+seed.Below(20), 5)
		if p := holdWords(t, f, tables, sample.Row(&seed, f, 9)); len(p) > 128 {
			great++
		}
	}
	if great < 5 {
		t.Errorf("%d with more than 128 nodes", great)
	}
}
