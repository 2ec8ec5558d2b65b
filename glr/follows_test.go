package glr

import (
	"fmt"
	"slices"
	"strings"
	"testing"

	"bramble/api"
	"bramble/chart"
	"bramble/flat"
	"bramble/gram"
	"bramble/sample"
	"bramble/table"
)

// made is the plain grammar of some rules.
func made(t *testing.T, rules ...string) api.Flat {
	t.Helper()
	g, line, fault := gram.Parse("grammar g\nrule " + strings.Join(rules, "\nrule ") + "\n")
	if fault.Err != api.OK {
		t.Fatalf("line %d: %v", line, fault)
	}
	f, err := flat.Make(g)
	if err != api.OK {
		t.Fatal(err)
	}
	return f
}

// termsOf is a plain grammar's terminals.
func termsOf(f api.Flat) []int {
	var all []int
	for term := range f.Terms {
		all = append(all, term)
	}
	return all
}

// seen is how often rows were taken and not, and how often there was more than one way.
type seen struct{ taken, not, ways, whole int }

// holdGrammar fails where the tables are not the grammar (P17.4), or, if they are not torn, a row has more than one way (P17.6).
func (s *seen) holdGrammar(t *testing.T, f api.Flat, tables api.Table, l []int) {
	t.Helper()
	ways := chart.Count(f, l, 2)
	if got := Accepts(f, tables, l); got != chart.Accepts(f, l) || got != (ways > 0) {
		t.Fatalf("%v, %v: Accepts: %v, %d ways", f, l, got, ways)
	}
	if ways > 1 && !isTorn(tables) {
		t.Fatalf("%v, %v: two ways, and nothing is torn", f, l)
	}
	switch ways {
	case 0:
		s.not++
	case 1:
		s.taken++
	default:
		s.ways++
	}
	if ways == 1 && !isTorn(tables) {
		s.whole++
	}
}

// P17.4, P17.6: every plain grammar of few productions that flat.Make could make, with every row of few numbers.
func TestEveryGrammar(t *testing.T) {
	t.Parallel()
	for _, c := range []struct{ terms, nons, prods, items, row int }{{1, 1, 3, 3, 5}, {1, 2, 3, 2, 4}, {2, 1, 3, 2, 3}} {
		var s seen
		rows := sample.Rows(termsOf(sample.Symbols(c.terms, 0)), c.row)
		rows = append(rows, sample.Rows([]int{-1, 0, c.terms, c.terms + 1}, 2)...)
		for f := range sample.Flats(sample.Symbols(c.terms, c.nons), c.prods, c.items) {
			if sample.Round(f) {
				continue
			}
			tables := built(t, f)
			for _, l := range rows {
				s.holdGrammar(t, f, tables, l)
			}
		}
		if s.taken < 400 || s.not < 400 || s.ways < 400 || s.whole < 400 {
			t.Errorf("%v: %v", c, s)
		}
	}
}

// P17.4, P17.6: drawn plain grammars, with rows that are theirs, and with others.
func TestDrawnGrammars(t *testing.T) {
	t.Parallel()
	seed := sample.Seed(175)
	var s seen
	for range 1200 {
		f := sample.Flat(&seed, sample.Symbols(1+seed.Below(3), 1+seed.Below(4)), 2+seed.Below(8), 4)
		if sample.Round(f) {
			continue
		}
		tables, err := table.Build(f)
		if err != api.OK {
			continue
		}
		for range 4 {
			l := sample.Row(&seed, f, 8)
			if _, row, ok := sample.Way(&seed, f, len(f.Terms), 4); ok && len(row) <= api.MaxTokens {
				l = row
			}
			s.holdGrammar(t, f, tables, l)
			if len(l) > 0 {
				l = slices.Clone(l)
				l[seed.Below(len(l))] = seed.Below(len(f.Terms)+2) - 1
				s.holdGrammar(t, f, tables, l)
				s.holdGrammar(t, f, tables, l[1:])
			}
			holdFollows(t, f, tables, l)
		}
	}
	if s.taken < 500 || s.not < 500 || s.ways < 500 || s.whole < 500 {
		t.Errorf("%v", s)
	}
}

// P17.4 to P17.6: grammars with all kinds of parts, as flat.Make makes them, with rows up to 40.
func TestMadeGrammars(t *testing.T) {
	t.Parallel()
	seed := sample.Seed(176)
	longest := 0
	for _, c := range []struct {
		torn, ways bool // whether the tables are torn, and whether there are rows with more than one way
		rules      []string
	}{
		{true, true, []string{`a a "+" a | a "*" a | "(" a ")" | "x"`}},
		{false, false, []string{`a a "+" b | b`, `b b "*" c | c`, `c "(" a ")" | "x"`}},
		{false, false, []string{`a (b ";")*`, `b "x" ("," "x")* | "(" a ")"`}},
		{true, true, []string{`a b*`, `b "x"? "y"? "z" | "x" b?`}},
		{true, true, []string{`a a a a | a a | "x"`}},
		{true, true, []string{`a b c`, `b "x"*`, `c "x"* "y"?`}},
		{true, true, []string{`s "if" e s | "if" e s "else" s | "x"`, `e "x" | e "+" e`}},
		{false, false, []string{`a "x" a "y" | ()`}},
		{true, false, []string{`a "x" a "x" | "y" a "y" | ()`}},
		{true, true, []string{`a b b b b`, `b "x"? c`, `c "y"?`}},
	} {
		f := made(t, c.rules...)
		tables := built(t, f)
		if isTorn(tables) != c.torn {
			t.Errorf("%v: torn is %v", c.rules, !c.torn)
		}
		var s seen
		for range 100 {
			_, l, _ := sample.Way(&seed, f, len(f.Terms), 1+seed.Below(11))
			l = l[:min(len(l), api.MaxTokens)]
			longest = max(longest, len(l))
			for range 2 {
				s.holdGrammar(t, f, tables, l)
				holdFollows(t, f, tables, l)
				if len(l) > 0 {
					l[seed.Below(len(l))] = seed.Below(len(f.Terms)+1) - 1
				}
			}
		}
		if s.taken+s.ways < 50 || s.not < 15 || (s.ways > 0) != c.ways {
			t.Errorf("%v: %v", c.rules, s)
		}
	}
	if longest != api.MaxTokens {
		t.Errorf("at most %d terminals", longest)
	}
}

// holdFollows fails where P17.5 does not hold of a row whose stacks are not too great.
func holdFollows(t *testing.T, f api.Flat, tables api.Table, l []int) {
	t.Helper()
	alive := Alive(f, tables, l)
	if Accepts(f, tables, l) && alive != len(l) {
		t.Fatalf("%v, %v, %v: it is taken, and alive as far as %d", f, tables, l, alive)
	}
	for at := range min(alive, len(l)) {
		if next := Next(f, tables, l[:at]); !slices.Contains(next, l[at]) {
			t.Fatalf("%v, %v, %v: %d is shifted, and Next of those ahead is %v", f, tables, l, l[at], next)
		}
		if got := Alive(f, tables, l[:at]); got != at {
			t.Fatalf("%v, %v, %v: alive as far as %d, and the first %d as far as %d", f, tables, l, alive, at, got)
		}
	}
	if alive == len(l) {
		return
	}
	// The first terminal that is not shifted: what stands behind it, or nothing, changes nothing.
	if next := Next(f, tables, l[:alive]); slices.Contains(next, l[alive]) {
		t.Fatalf("%v, %v, %v: %d is not shifted, and Next of those ahead is %v", f, tables, l, l[alive], next)
	}
	for _, behind := range [][]int{nil, {0}, {-1}, {len(f.Terms)}, {0, 0}, l} {
		other := slices.Concat(l[:alive+1], behind)
		if got := Alive(f, tables, other); got != alive {
			t.Fatalf("%v, %v, %v: alive as far as %d, and %v as far as %d", f, tables, l, alive, other, got)
		}
		if next := Next(f, tables, other); next != nil || Accepts(f, tables, other) {
			t.Fatalf("%v, %v, %v: Next %v", f, tables, other, next)
		}
	}
}

// P17.5: of every table of two states for a plain grammar, with Accept at one of them.
func TestFollowsOfEveryTable(t *testing.T) {
	t.Parallel()
	f := plain(t, "x", "a", "a -> x; a ->")
	rows := sample.Rows([]int{0}, 2)
	taken, dead := 0, 0
	for tables := range sample.Tables(f, 2) {
		acts := &tables.Rows[1].Acts
		if n := len(*acts); n > 0 && (*acts)[n-1].Look == 1 {
			(*acts)[n-1].Accept = true
		} else {
			*acts = append(*acts, api.Act{Look: 1, To: -1, Accept: true})
		}
		for _, l := range rows {
			holdFollows(t, f, tables, l)
			if Accepts(f, tables, l) {
				taken++
			}
			if Alive(f, tables, l) < len(l) {
				dead++
			}
		}
	}
	if taken < 1000 || dead < 1000 {
		t.Errorf("%d taken, %d not alive", taken, dead)
	}
}

// P17.5: drawn tables that are Fit.
func TestFollowsOfDrawnTables(t *testing.T) {
	seed := sample.Seed(177)
	taken, dead := 0, 0
	for range 1500 {
		f := sample.Flat(&seed, sample.Symbols(1+seed.Below(3), 1+seed.Below(3)), 1+seed.Below(5), 3)
		tables := sample.BusyTable(&seed, f, 1+seed.Below(8), 2+seed.Below(6))
		l := sample.Row(&seed, f, 10)
		if len(l) > 0 && seed.Below(3) == 0 {
			l[seed.Below(len(l))] = seed.Below(len(f.Terms)+3) - 1
		}
		holdFollows(t, f, tables, l)
		if Accepts(f, tables, l) {
			taken++
		}
		if Alive(f, tables, l) < len(l) {
			dead++
		}
	}
	if taken < 300 || dead < 300 {
		t.Errorf("%d taken, %d not alive", taken, dead)
	}
}

// manyNames is a grammar of which a token is each of so many rules, and a row in many ways: its stack has many nodes at each place.
func manyNames(t *testing.T, many int) api.Flat {
	t.Helper()
	rules := []string{`a "x" | a a`}
	for i := range many {
		rules[0] += fmt.Sprintf(" | n%d a", i)
		rules = append(rules, fmt.Sprintf(`n%d "x"`, i))
	}
	return made(t, rules...)
}

// P17.1, P17.2, P17.4: a grammar's tables, with rows whose stack has just below 4096 nodes, and of more. There what P17.2 says of an error goes ahead of P17.4.
func TestGrammarOfManyNodes(t *testing.T) {
	t.Parallel()
	f := manyNames(t, 62)
	tables := built(t, f)
	l := make([]int, api.MaxTokens)
	// 127 nodes more by each terminal.
	if g, err := Run(f, tables, l[:33]); err != api.OK || len(g.Nodes) != 4067 {
		t.Errorf("%d nodes, %v", len(g.Nodes), err)
	}
	for _, many := range []int{1, 2, 3, 20, 33, 34, 40} {
		if Accepts(f, tables, l[:many]) != (many <= 33) || !chart.Accepts(f, l[:many]) {
			t.Errorf("%d terminals: Accepts is %v", many, many > 33)
		}
	}
	for _, many := range []int{34, 40} {
		if g, err := Run(f, tables, l[:many]); err != api.ErrMany || g.Nodes != nil || Alive(f, tables, l[:many]) != 0 {
			t.Errorf("%d terminals: %d nodes, %v", many, len(g.Nodes), err)
		}
	}
	if got := Next(f, tables, l[:32]); !slices.Equal(got, []int{0}) {
		t.Errorf("behind 32 terminals: %v", got)
	}
	if got := Next(f, tables, l[:33]); got != nil {
		t.Errorf("behind 33 terminals: %v", got)
	}
}
