package table

import (
	"slices"
	"testing"

	"bramble/api"
	"bramble/flat"
	"bramble/item"
	"bramble/sample"
)

// plain is a fit plain grammar by its names and productions.
func plain(t *testing.T, terms, nons, prods string) api.Flat {
	t.Helper()
	f := sample.FlatOf(terms, nons, prods)
	mustFit(t, f)
	return f
}

// mustFit fails where a plain grammar is not fit.
func mustFit(t *testing.T, f api.Flat) {
	t.Helper()
	if !flat.Fit(f) {
		t.Fatalf("%v is not fit", f)
	}
}

// buildCase is a plain grammar, its tables, and where these are Torn.
type buildCase struct {
	what, terms, nons, prods string
	want                     string
	torn                     [][2]int
}

// wholeCases is of what the whole can be.
func wholeCases() []buildCase {
	return []buildCase{
		{"the chapter's", "x y", "a", "a -> x a; a -> y",
			"x>1 y>2 x=1 y=2 a=3 | x>1 y>2 x=1 y=2 a=4 | $/1 | $! | $/0", nil},
		{"the chapter's second", "x", "a", "a -> a a; a -> x",
			"x>1 x=1 a=2 | x/1 $/1 | x>1 $! x=1 a=3 | x>1/0 $/0 x=1 a=3", [][2]int{{3, 0}}},
		{"no productions", "x y", "a b", "", "a=1 | $!", nil},
		{"no terminals, no productions: the end is 0", "", "a", "", "0=1 | 0!", nil},
		{"no terminals, nothing", "", "a", "a ->", "0/0 0=1 | 0!", nil},
		{"no terminals, nothing twice", "", "a", "a ->; a ->", "0/0,1 0=1 | 0!", [][2]int{{0, 0}}},
		{"no terminals, others", "", "a b", "a -> b b; b ->", "$/1 a=1 b=2 | $! | $/1 b=3 | $/0", nil},
		{"no terminals, itself", "", "a", "a -> a; a ->", "$/1 a=1 | $/0!", [][2]int{{1, 0}}},
		{"nothing", "x", "a", "a ->", "$/0 a=1 | $!", nil},
		{"itself alone: a Reduce beside Accept", "x", "a", "a -> a", "a=1 | $/0!", [][2]int{{1, 1}}},
		{"itself alone, or a terminal", "x", "a", "a -> a; a -> x", "x>1 x=1 a=2 | $/1 | $/0!", [][2]int{{2, 1}}},
		{"itself alone twice: two Reduce beside Accept", "x", "a", "a -> a; a -> a; a -> x", "x>1 x=1 a=2 | $/2 | $/0,1!", [][2]int{{2, 1}}},
		{"nothing, or itself and a terminal: shifts beside Accept", "x", "a", "a ->; a -> a x",
			"x/0 $/0 a=1 | x>2 $! x=2 | x/1 $/1", nil},
		{"nothing, or itself twice: shifts of nothing beside Accept", "x", "a", "a ->; a -> a a",
			"$/0 a=1 | $/0! a=2 | $/0,1 a=2", [][2]int{{1, 1}, {2, 1}}},
		{"what is used by none", "x y", "a b", "a -> x; b -> y", "x>1 x=1 a=2 | $/0 | $!", nil},
		{"what derives no row", "x", "a b c", "a -> b c; b -> x; c -> c", "a=1 b=2 | $! | c=3 | $/0,2", [][2]int{{3, 1}}},
		{"another one alone", "x", "a b", "a -> b; b -> x", "x>1 x=1 a=2 b=3 | $/1 | $! | $/0", nil},
		{"another one, in which the whole is", "x y", "a b", "a -> b; a -> x; b -> a y",
			"x>1 x=1 a=2 b=3 | y/1 $/1 | y>4 $! y=4 | y/0 $/0 | y/2 $/2", nil},
	}
}

// stateCases is of what a state can do.
func stateCases() []buildCase {
	return []buildCase{
		{"by the numbers of symbols, not by productions", "x y z", "a", "a -> z; a -> y; a -> x",
			"x>1 y>2 z>3 x=1 y=2 z=3 a=4 | $/2 | $/1 | $/0 | $!", nil},
		{"a production there twice", "x", "a", "a -> x; a -> x", "x>1 x=1 a=2 | $/0,1 | $!", [][2]int{{1, 1}}},
		{"several that end ahead of the end", "x", "a b c", "a -> b; a -> c; b -> x; c -> x",
			"x>1 x=1 a=2 b=3 c=4 | $/2,3 | $! | $/0 | $/1", [][2]int{{1, 1}}},
		{"several that end ahead of one of their Looks", "x y z", "a b c", "a -> b y; a -> c y; a -> c z; b -> x; c -> x",
			"x>1 x=1 a=2 b=3 c=4 | y/3,4 z/4 | $! | y>5 y=5 | y>6 z>7 y=6 z=7 | $/0 | $/1 | $/2", [][2]int{{1, 1}}},
		{"several that end ahead of other Looks", "x y z", "a b c", "a -> b y; a -> c z; b -> x; c -> x",
			"x>1 x=1 a=2 b=3 c=4 | y/2 z/3 | $! | y>5 y=5 | z>6 z=6 | $/0 | $/1", nil},
		{"three that end ahead of one Look, rising", "x", "a b c d", "a -> d; a -> b; a -> c; b -> x; c -> x; d -> x",
			"x>1 x=1 a=2 b=3 c=4 d=5 | $/3,4,5 | $! | $/1 | $/2 | $/0", [][2]int{{1, 1}}},
		{"nothing ends ahead of what is shifted", "x", "a b", "a -> b x; b ->; b -> x",
			"x>1/1 x=1 a=2 b=3 | x/2 | $! | x>4 x=4 | $/0", [][2]int{{0, 0}}},
		{"two end ahead of what is shifted", "x", "a b", "a -> b x; b ->; b ->; b -> x",
			"x>1/1,2 x=1 a=2 b=3 | x/3 | $! | x>4 x=4 | $/0", [][2]int{{0, 0}}},
		{"sets that differ by their Looks alone", "x y z", "a b", "a -> x b x; a -> y b y; b -> z",
			"x>1 y>2 x=1 y=2 a=3 | z>4 z=4 b=5 | z>6 z=6 b=7 | $! | x/2 | x>8 x=8 | y/2 | y>9 y=9 | $/0 | $/1", nil},
		{"pairs", "c d", "s p", "s -> p p; p -> c p; p -> d",
			"c>1 d>2 c=1 d=2 s=3 p=4 | c>1 d>2 c=1 d=2 p=5 | c/2 d/2 | $! | c>6 d>7 c=6 d=7 p=8 | c/1 d/1 | c>6 d>7 c=6 d=7 p=9 | $/2 | $/0 | $/1", nil},
		{"sums", "+ x", "a", "a -> a + a; a -> x",
			"x>1 x=1 a=2 | +/1 $/1 | +>3 $! +=3 | x>1 x=1 a=4 | +>3/0 $/0 +=3", [][2]int{{4, 0}}},
		{"sums and products", "+ * x", "a", "a -> a + a; a -> a * a; a -> x",
			"x>1 x=1 a=2 | +/2 */2 $/2 | +>3 *>4 $! +=3 *=4 | x>1 x=1 a=5 | x>1 x=1 a=6 | +>3/0 *>4/0 $/0 +=3 *=4 | +>3/1 *>4/1 $/1 +=3 *=4",
			[][2]int{{5, 0}, {5, 1}, {6, 0}, {6, 1}}},
	}
}

func buildCases() []buildCase {
	return slices.Concat(wholeCases(), stateCases())
}

// P12.1, and P12.4 of what is built.
func TestBuild(t *testing.T) {
	for _, c := range buildCases() {
		f := plain(t, c.terms, c.nons, c.prods)
		want := sample.TableOf(f, c.want)
		got, err := Build(f)
		if err != api.OK || !Same(got, want) {
			t.Errorf("%s: %v, %v, not %v", c.what, got, err, want)
		}
		if torn := Torn(got); !slices.Equal(torn, c.torn) {
			t.Errorf("%s: Torn is %v, not %v", c.what, torn, c.torn)
		}
	}
}

// buildByWords is the tables by what the chapter says of each state.
func buildByWords(f api.Flat) api.Table {
	sets, _ := item.All(f)
	var t api.Table
	for _, set := range sets {
		goes := map[int]int{}
		var r api.Row
		for sym := range len(f.Terms) + len(f.Nons) {
			if next := item.Goto(f, set, sym); len(next) > 0 {
				goes[sym] = slices.IndexFunc(sets, func(l []api.Lr) bool { return slices.Equal(l, next) })
				r.Goes = append(r.Goes, api.Go{Sym: sym, To: goes[sym]})
			}
		}
		for look := range len(f.Terms) + 1 {
			a := api.Act{Look: look, To: -1}
			if to, ok := goes[look]; ok && look < len(f.Terms) {
				a.To = to
			}
			for prod, p := range f.Prods {
				if slices.Contains(set, api.Lr{Prod: prod, Dot: len(p.Right), Look: look}) {
					a.Reduce = append(a.Reduce, prod)
				}
			}
			a.Accept = look == len(f.Terms) && slices.Contains(set, api.Lr{Prod: -1, Dot: 1, Look: look})
			if a.To != -1 || a.Reduce != nil || a.Accept {
				r.Acts = append(r.Acts, a)
			}
		}
		t.Rows = append(t.Rows, r)
	}
	return t
}

// agree fails where Build tells something else than the chapter's words say, or P12.7 does not hold.
func agree(t *testing.T, f api.Flat) api.Table {
	t.Helper()
	got, err := Build(f)
	_, want := item.All(f)
	if err != want || err != api.OK && got.Rows != nil {
		t.Fatalf("%s: %d rows, %v, not %v", flat.Show(f), len(got.Rows), err, want)
	}
	if err == api.OK {
		if want := buildByWords(f); !Same(got, want) {
			t.Fatalf("%s: %v, not %v", flat.Show(f), got, want)
		}
		holdFollows(t, f, got)
	}
	return got
}

// holdFollows fails where tables are not Fit, or a state that shifts ahead of a terminal goes elsewhere by it (P12.7).
func holdFollows(t *testing.T, f api.Flat, built api.Table) {
	t.Helper()
	if !Fit(f, built) {
		t.Fatalf("%s: %v is not Fit", flat.Show(f), built)
	}
	for state := range built.Rows {
		for look := -1; look <= len(f.Terms)+1; look++ {
			a := Act(built, state, look)
			if a.To != -1 && Go(built, state, look) != a.To {
				t.Fatalf("%s: state %d shifts to %d ahead of %d, and goes to %d", flat.Show(f), state, a.To, look, Go(built, state, look))
			}
		}
	}
}

// Every plain grammar of a few symbols and productions, in every order.
func TestBuildByWordsOfAll(t *testing.T) {
	for _, c := range []struct{ terms, nons, prods, items int }{{2, 2, 2, 2}, {1, 2, 3, 2}, {2, 1, 3, 2}, {0, 2, 3, 2}, {1, 1, 4, 2}, {1, 3, 3, 1}, {1, 1, 2, 4}} {
		for f := range sample.Flats(sample.Symbols(c.terms, c.nons), c.prods, c.items) {
			agree(t, f)
		}
	}
}

func TestBuildByWordsOfDrawn(t *testing.T) {
	seed := sample.Seed(30)
	large, torn := 0, 0
	for n := range 4000 {
		f := sample.Flat(&seed, sample.Symbols(seed.Below(5), 1+seed.Below(5)), 2+seed.Below(9), 1+n%4)
		mustFit(t, f)
		built := agree(t, f)
		if len(built.Rows) > 20 {
			large++
		}
		if len(Torn(built)) > 0 {
			torn++
		}
	}
	if large < 200 || torn < 1000 || torn > 3000 {
		t.Errorf("%d of more than 20 states, %d Torn", large, torn)
	}
}

// Names, Fields, Aliases and Precs are not asked for.
func TestBuildOfDressed(t *testing.T) {
	for _, c := range buildCases() {
		f := sample.DressedFlat(plain(t, c.terms, c.nons, c.prods))
		mustFit(t, f)
		want := sample.TableOf(plain(t, c.terms, c.nons, c.prods), c.want)
		if got, err := Build(f); err != api.OK || !Same(got, want) {
			t.Errorf("%s: %v, %v, not %v", c.what, got, err, want)
		}
	}
}

// P12.1, P12.7 of what comes of grammars as they are written.
func TestBuildOfGrammars(t *testing.T) {
	for _, c := range []struct {
		text string
		torn bool
	}{
		{"grammar g\nrule a \"x\" a | \"y\"\n", false},
		{"grammar g\nrule a a a | \"x\"\n", true},
		{"grammar s\ntoken n [0-9]+\nrule s l:n (\"+\" r:n)*\n", false},
		{"grammar e\ntoken t [a-z]\nrule e %1 e \"+\" e | e \"*\" e | t\n", true},
		{"grammar p\ntoken x [a-z]\nrule p i*\nrule i x | \"(\" b \")\"\nrule b i*\n", false},
		{"grammar p\ntoken x [a-z]\nskip b [ ]+\nrule p (x+ \";\"?)+\n", true},
	} {
		f := made(t, c.text)
		if built := agree(t, f); (len(Torn(built)) > 0) != c.torn {
			t.Errorf("%q: Torn is %v", c.text, Torn(built))
		}
	}
}
