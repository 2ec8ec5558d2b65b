package glr

import (
	"slices"
	"testing"

	"bramble/api"
	"bramble/sample"
)

// asked is what is told of a row: how far it is alive, whether it is taken, and which terminals may come next.
type asked struct {
	what, row string
	alive     int
	accepts   bool
	next      string
}

func holdAsked(t *testing.T, f api.Flat, tables api.Table, all []asked) {
	t.Helper()
	for _, c := range all {
		l := sample.RowOf(f, c.row)
		if got := Alive(f, tables, l); got != c.alive {
			t.Errorf("%s: Alive of %q: %d, not %d", c.what, c.row, got, c.alive)
		}
		if got := Accepts(f, tables, l); got != c.accepts {
			t.Errorf("%s: Accepts of %q: %v", c.what, c.row, got)
		}
		if got := Next(f, tables, l); !slices.Equal(got, sample.RowOf(f, c.next)) {
			t.Errorf("%s: Next of %q: %v, not %s", c.what, c.row, got, c.next)
		}
		holdWords(t, f, tables, l)
	}
}

// P17.2, P17.3: of plain grammars' tables.
func TestAskedOfGrammars(t *testing.T) {
	for _, c := range []struct {
		nons, prods string
		torn        bool
		all         []asked
	}{
		{"a", "a -> a + a; a -> x", true, []asked{
			{"nothing", "", 0, false, "x"},
			{"one", "x", 1, true, "+"},
			{"not begun", "+", 0, false, ""},
			{"not begun, all else is right", "+ x", 0, false, ""},
			{"not ended", "x +", 2, false, "x"},
			{"the chapter's", "x + x", 3, true, "+"},
			{"the chapter's, not alive", "x x", 1, false, ""},
			{"not alive, all else is right", "x x + x", 1, false, ""},
			{"in the middle", "x + + x", 2, false, ""},
			{"another terminal at the end", "x + *", 2, false, ""},
			{"in many ways", "x + x + x + x", 7, true, "+"},
			{"in many ways, not ended", "x + x + x +", 6, false, "x"},
			{"a number below 0", "-1", 0, false, ""},
			{"a number below 0 behind what is taken", "x -1", 1, false, ""},
			{"the end's number", "3", 0, false, ""},
			{"the end's number behind what is taken", "x + x 3", 3, false, ""},
			{"the end's number in the middle", "x 3 x", 1, false, ""},
			{"a number above all in the middle", "x + 4 + x", 2, false, ""},
			{"a number above all", "99", 0, false, ""},
		}},
		{"a", "a -> x a; a ->", false, []asked{
			{"nothing is taken", "", 0, true, "x"},
			{"the end's number is not the end", "3", 0, false, ""},
			{"some", "x x x", 3, true, "x"},
			{"some, and another one", "x x +", 2, false, ""},
		}},
		{"a b c", "a -> b c + c; b -> x; c ->", false, []asked{
			{"reductions ahead of a shift", "x", 1, false, "+"},
			{"all", "x +", 2, true, ""},
			{"more than all", "x + x", 2, false, ""},
		}},
		{"a b c", "a -> b +; a -> c *; b -> x; c -> x", false, []asked{
			{"two productions, each ahead of a terminal of its own", "x", 1, false, "+ *"},
			{"the first one", "x +", 2, true, ""},
			{"the second one", "x *", 2, true, ""},
			{"neither", "x x", 1, false, ""},
		}},
		{"a b c", "a -> b x +; a -> c x *; b -> x; c -> x", true, []asked{
			{"two productions ahead of one terminal", "x", 1, false, "x"},
			{"both go on", "x x", 2, false, "+ *"},
			{"the first one", "x x +", 3, true, ""},
			{"the second one", "x x *", 3, true, ""},
		}},
		{"a", "a -> x a x; a -> + a +; a ->", true, []asked{
			{"nothing", "", 0, true, "+ x"},
			{"half", "x +", 2, false, "+ x"},
			{"whole", "x + + x", 4, true, "+ x"},
			{"alive to its end", "x + + x x", 5, false, "+ x"},
			{"another terminal", "x + * x", 2, false, ""},
		}},
		{"a b", "a -> b a x; a -> x; b ->", true, []asked{
			{"nothing ahead of itself, again and again", "x", 1, true, "x"},
			{"once", "x x", 2, true, "x"},
			{"five times", "x x x x x x", 6, true, "x"},
			{"not alive", "x x + x", 2, false, ""},
		}},
		{"a b", "a -> x b; b -> b x", false, []asked{
			{"what never ends is not begun", "", 0, false, "x"},
			{"what never ends is alive", "x", 1, false, ""},
		}},
	} {
		f := plain(t, "+ x *", c.nons, c.prods)
		tables := built(t, f)
		if isTorn(tables) != c.torn {
			t.Errorf("%s: torn is %v", c.prods, !c.torn)
		}
		holdAsked(t, f, tables, c.all)
	}
}

// P17.2, P17.3: of tables that are Fit, but none that table.Build makes.
func TestAskedOfTables(t *testing.T) {
	for _, c := range []struct {
		prods, tables string
		all           []asked
	}{
		{"a -> x", "x>1 | x>2 $! | ", []asked{
			{"Accept is not reached yet", "", 0, false, "x"},
			{"Accept", "x", 1, true, "x"},
			{"Accept lies behind", "x x", 2, false, ""},
			{"Accept lies behind, and it is not alive", "x x x", 2, false, ""},
			{"Accept lies ahead of another number", "x 2", 1, false, ""},
			{"Accept lies ahead of a number below 0", "x -1", 1, false, ""},
		}},
		{"a -> x", "x>1 y>1 $! | ", []asked{
			{"Accept at once", "", 0, true, "x y"},
			{"Accept at once, and no more", "y", 1, false, ""},
		}},
		{"a ->; b ->", "$/0 a=1 | $/1 b=2 | $!", []asked{
			{"Accept behind reductions", "", 0, true, ""},
		}},
		{"a ->; b ->", "$/0 a=1 | $/1! b=2 | ", []asked{
			{"Accept beside a reduction", "", 0, true, ""},
		}},
		{"a -> x", "x>1 y>2 a=3 | $/0 | $/0 | ", []asked{
			{"no Accept anywhere", "x", 1, false, ""},
		}},
		{"a -> x", "x>1 a=3 | x/0 | x>1 y>1 | x>1 y>1", []asked{
			{"it is reduced ahead of x alone", "x", 1, false, "x"},
		}},
		{"a -> x", "x>1 a=3 | x>2 y/0 | | y>2", []asked{
			{"one is shifted, the other one behind a reduction", "x", 1, false, "x y"},
			{"behind the reduction", "x y", 2, false, ""},
		}},
		{"a ->", "x/0 y/0 a=0", []asked{
			{"reductions alone", "", 0, false, ""},
			{"reductions alone, ahead of a terminal", "x", 0, false, ""},
		}},
		{"a -> x", "", []asked{
			{"nothing at all", "", 0, false, ""},
			{"nothing at all ahead of a terminal", "x", 0, false, ""},
		}},
		{"a -> x", "x>0 y>0 $!", []asked{
			{"all is taken", "", 0, true, "x y"},
			{"all is taken, whatever it is", "x y y x", 4, true, "x y"},
			{"but not what is no terminal", "x y 2 x", 2, false, ""},
		}},
	} {
		f := plain(t, "x y", "a b", c.prods)
		holdAsked(t, f, tablesOf(t, f, c.tables), c.all)
	}
}

// P17.2, P17.3: rows of just 40.
func TestAskedOfForty(t *testing.T) {
	f := plain(t, "x +", "a", "a -> a + a; a -> x")
	tables := built(t, f)
	l := append(slices.Repeat([]int{0, 1}, 19), 0, 1)
	for _, c := range []struct {
		what    string
		l       []int
		alive   int
		accepts bool
		next    []int
	}{
		{"40", l, 40, false, []int{0}},
		{"39", l[:39], 39, true, []int{1}},
		{"40, the last one is wrong", append(slices.Clone(l[:39]), 0), 39, false, nil},
		{"40, the last one is no terminal", append(slices.Clone(l[:39]), 2), 39, false, nil},
		{"40, the first one is wrong", append([]int{1}, l[1:]...), 0, false, nil},
		{"40, the first one is no terminal", append([]int{-1}, l[1:]...), 0, false, nil},
		{"40, one in the middle is wrong", slices.Concat(l[:20], []int{1}, l[21:]), 20, false, nil},
	} {
		if got := Alive(f, tables, c.l); got != c.alive {
			t.Errorf("%s: Alive: %d", c.what, got)
		}
		if got := Accepts(f, tables, c.l); got != c.accepts {
			t.Errorf("%s: Accepts: %v", c.what, got)
		}
		if got := Next(f, tables, c.l); !slices.Equal(got, c.next) {
			t.Errorf("%s: Next: %v", c.what, got)
		}
	}
	f = plain(t, "x", "a", "a -> a a; a -> x")
	tables = built(t, f)
	if l := make([]int, 40); !Accepts(f, tables, l) || Alive(f, tables, l) != 40 || !slices.Equal(Next(f, tables, l), []int{0}) {
		t.Errorf("40 alike: %v, %d, %v", Accepts(f, tables, l), Alive(f, tables, l), Next(f, tables, l))
	}
}

// P17.3: Next is rising, of many terminals, in each row by what it shifts.
func TestNextOfManyTerminals(t *testing.T) {
	f := sample.Symbols(599, 1)
	f.Prods = []api.Prod{{Left: 599}}
	var tables api.Table
	for state := range 4 {
		var r api.Row
		for term := range f.Terms {
			if term%(state+1) == 0 {
				r.Acts = append(r.Acts, api.Act{Look: term, To: (state + 1) % 4})
			}
		}
		tables.Rows = append(tables.Rows, r)
	}
	for long := range 4 {
		var want []int
		for term := 0; term < 599; term += long + 1 {
			want = append(want, term)
		}
		if got := Next(f, tables, make([]int, long)); !slices.Equal(got, want) {
			t.Errorf("behind %d: %v", long, got)
		}
	}
}
