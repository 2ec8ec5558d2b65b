package flat

import (
	"math"
	"slices"
	"strings"
	"testing"

	"bramble/api"
)

// small is a fit plain grammar that has something in each field: symbols 0 and 1 are terminals, 2 to 4 are others.
func small() api.Flat {
	return api.Flat{
		Terms: []string{`"x"`, "t"},
		Nons:  []string{"a", "_b", "#1"},
		Prods: []api.Prod{
			{Left: 2, Right: []api.Item{{Sym: 0, Field: "f", Alias: "g"}, {Sym: 4}}, Prec: 3},
			{Left: 2, Right: []api.Item{{Sym: 3, Alias: "h"}}},
			{Left: 3, Right: []api.Item{{Sym: 1}}, Prec: -2},
			{Left: 4},
			{Left: 4, Right: []api.Item{{Sym: 4}, {Sym: 3, Field: "f"}}},
		},
	}
}

// long is a text of so many bytes.
func long(bytes int) string { return strings.Repeat("n", bytes) }

// holdFit fails where Fit tells something else of what comes of small by a change.
func holdFit(t *testing.T, what string, fit bool, change func(*api.Flat)) {
	t.Helper()
	f := small()
	change(&f)
	if Fit(f) != fit {
		t.Errorf("%s: fit is %v", what, !fit)
	}
	if !fit && Show(f) != "" {
		t.Errorf("%s: shown as %q", what, Show(f))
	}
}

func TestFitOfSmall(t *testing.T) {
	holdFit(t, "as it is", true, func(*api.Flat) {})
	holdFit(t, "nothing", false, func(f *api.Flat) { *f = api.Flat{} })
	holdFit(t, "one of Nons alone", true, func(f *api.Flat) { *f = api.Flat{Nons: []string{"a"}} })
	holdFit(t, "terminals alone", false, func(f *api.Flat) { *f = api.Flat{Terms: []string{"a", "b"}} })
	holdFit(t, "no Nons", false, func(f *api.Flat) { f.Nons, f.Prods = nil, nil })
	holdFit(t, "no Nons, a list", false, func(f *api.Flat) { f.Nons, f.Prods = []string{}, []api.Prod{} })
	holdFit(t, "no productions", true, func(f *api.Flat) { f.Prods = nil })
	holdFit(t, "no terminals", true, func(f *api.Flat) {
		*f = api.Flat{Nons: []string{"a"}, Prods: []api.Prod{{}, {Right: []api.Item{{}}}}}
	})
	holdFit(t, "names twice", true, func(f *api.Flat) { f.Terms[1], f.Nons[1], f.Nons[2] = f.Terms[0], f.Terms[0], f.Terms[0] })
	holdFit(t, "productions twice", true, func(f *api.Flat) { f.Prods[1] = f.Prods[0] })
}

func TestFitCountsSymbols(t *testing.T) {
	for _, c := range []struct {
		terms, nons int
		fit         bool
	}{
		{0, 1, true}, {599, 1, true}, {0, 600, true}, {300, 300, true}, {1, 599, true},
		{600, 1, false}, {0, 601, false}, {301, 300, false}, {300, 301, false}, {601, 0, false}, {600, 0, false}, {600, 600, false}, {5000, 5000, false},
	} {
		f := api.Flat{Terms: slices.Repeat([]string{"t"}, c.terms), Nons: slices.Repeat([]string{"n"}, c.nons)}
		if Fit(f) != c.fit {
			t.Errorf("%d terminals, %d others: fit is %v", c.terms, c.nons, !c.fit)
		}
	}
}

func TestFitCountsProductionsAndItems(t *testing.T) {
	for _, c := range []struct {
		many int
		fit  bool
	}{{0, true}, {1, true}, {400, true}, {401, false}, {800, false}, {4000, false}} {
		holdFit(t, "so many productions", c.fit, func(f *api.Flat) {
			f.Prods = slices.Repeat([]api.Prod{{Left: 3, Right: []api.Item{{Sym: 1}}}}, c.many)
		})
	}
	for _, c := range []struct {
		many int
		fit  bool
	}{{0, true}, {1, true}, {64, true}, {65, false}, {128, false}, {1000, false}} {
		for at := range small().Prods {
			holdFit(t, "so many items", c.fit, func(f *api.Flat) {
				f.Prods[at].Right = slices.Repeat([]api.Item{{Sym: 3}}, c.many)
			})
		}
	}
}

func TestFitLooksAtLefts(t *testing.T) {
	for _, c := range []struct {
		fit   bool
		lefts []int
	}{
		{true, []int{2}}, {true, []int{3}}, {true, []int{4}},
		{true, []int{2, 3, 4}}, {true, []int{2, 2, 2}}, {true, []int{2, 4, 4}}, {true, []int{3, 3, 4}}, {true, []int{4, 4}},
		{false, []int{1}}, {false, []int{0}}, {false, []int{-1}}, {false, []int{5}}, {false, []int{math.MinInt}}, {false, []int{math.MaxInt}},
		{false, []int{1, 2}}, {false, []int{2, 5}}, {false, []int{2, 3, 1}}, {false, []int{2, 0, 4}}, {false, []int{2, -1}}, {false, []int{4, 5, 6}},
		{false, []int{3, 2}}, {false, []int{4, 2}}, {false, []int{4, 3}}, {false, []int{2, 4, 3}}, {false, []int{2, 3, 2, 3}}, {false, []int{2, 3, 4, 4, 2}},
	} {
		f := small()
		f.Prods = nil
		for _, left := range c.lefts {
			f.Prods = append(f.Prods, api.Prod{Left: left})
		}
		if Fit(f) != c.fit {
			t.Errorf("Lefts %v: fit is %v", c.lefts, !c.fit)
		}
	}
}

func TestFitLooksAtItems(t *testing.T) {
	places := [][2]int{{0, 0}, {0, 1}, {1, 0}, {2, 0}, {4, 0}, {4, 1}}
	for _, at := range places {
		for sym := -2; sym <= 7; sym++ {
			holdFit(t, "a Sym", 0 <= sym && sym <= 4, func(f *api.Flat) { f.Prods[at[0]].Right[at[1]].Sym = sym })
		}
		for _, sym := range []int{math.MinInt, math.MaxInt, 600} {
			holdFit(t, "a Sym far off", false, func(f *api.Flat) { f.Prods[at[0]].Right[at[1]].Sym = sym })
		}
		for _, c := range []struct {
			s   string
			fit bool
		}{
			{"", true}, {"f", true}, {"_", true}, {"_9", true}, {"Left_2", true}, {long(32), true},
			{long(33), false}, {long(80), false}, {"9", false}, {"9f", false}, {"#1", false}, {"a b", false}, {" ", false}, {"a:", false}, {`"x"`, false}, {"é", false}, {"a\x00", false}, {"a\n", false}, {"\xff", false},
		} {
			holdFit(t, "the Field "+c.s, c.fit, func(f *api.Flat) { f.Prods[at[0]].Right[at[1]].Field = c.s })
			holdFit(t, "the Alias "+c.s, c.fit, func(f *api.Flat) { f.Prods[at[0]].Right[at[1]].Alias = c.s })
		}
	}
}

func TestFitLooksAtPrecs(t *testing.T) {
	for at := range small().Prods {
		for _, c := range []struct {
			prec int
			fit  bool
		}{
			{0, true}, {1, true}, {-1, true}, {9999, true}, {-9999, true}, {10000, true}, {-10000, true},
			{10001, false}, {-10001, false}, {math.MaxInt, false}, {math.MinInt, false},
		} {
			holdFit(t, "a Prec", c.fit, func(f *api.Flat) { f.Prods[at].Prec = c.prec })
		}
	}
}

func TestFitLooksAtNames(t *testing.T) {
	for _, c := range []struct {
		s   string
		fit bool
	}{
		{"", false}, {"a", true}, {long(80), true}, {long(81), false}, {long(1000), false},
		{" ", true}, {"\x00", true}, {"\xff\xfe", true}, {"9 9", true}, {"\n", true}, {"é", true}, {strings.Repeat("é", 40), true}, {strings.Repeat("é", 40) + "a", false}, {`"`, true}, {"#", true},
	} {
		for at := range 2 {
			holdFit(t, "of Terms "+c.s, c.fit, func(f *api.Flat) { f.Terms[at] = c.s })
		}
		for at := range 3 {
			holdFit(t, "of Nons "+c.s, c.fit, func(f *api.Flat) { f.Nons[at] = c.s })
		}
	}
}

// changes is what makes another one of small, by one field alone.
func changes() []func(*api.Flat) {
	return []func(*api.Flat){
		func(f *api.Flat) { f.Terms[0] = `"y"` },
		func(f *api.Flat) { f.Terms[1] = "T" },
		func(f *api.Flat) { f.Terms[1] = "" },
		func(f *api.Flat) { f.Terms[0], f.Terms[1] = f.Terms[1], f.Terms[0] },
		func(f *api.Flat) { f.Terms = f.Terms[:1] },
		func(f *api.Flat) { f.Terms = append(f.Terms, "u") },
		func(f *api.Flat) { f.Terms = append(f.Terms, "") },
		func(f *api.Flat) { f.Terms = nil },
		func(f *api.Flat) { f.Nons[0] = "A" },
		func(f *api.Flat) { f.Nons[2] = "#2" },
		func(f *api.Flat) { f.Nons[0], f.Nons[1] = f.Nons[1], f.Nons[0] },
		func(f *api.Flat) { f.Nons = f.Nons[:2] },
		func(f *api.Flat) { f.Nons = append(f.Nons, "#2") },
		func(f *api.Flat) { f.Nons = nil },
		func(f *api.Flat) { f.Terms, f.Nons = f.Terms[:1], append([]string{"t"}, f.Nons...) },
		func(f *api.Flat) { f.Prods[0].Left = 3 },
		func(f *api.Flat) { f.Prods[4].Left = 3 },
		func(f *api.Flat) { f.Prods[3].Left = -1 },
		func(f *api.Flat) { f.Prods[0].Prec = 4 },
		func(f *api.Flat) { f.Prods[2].Prec = 2 },
		func(f *api.Flat) { f.Prods[4].Prec = 1 },
		func(f *api.Flat) { f.Prods[0].Right[0].Sym = 1 },
		func(f *api.Flat) { f.Prods[4].Right[1].Sym = 4 },
		func(f *api.Flat) { f.Prods[0].Right[0].Field = "" },
		func(f *api.Flat) { f.Prods[4].Right[1].Field = "F" },
		func(f *api.Flat) { f.Prods[2].Right[0].Field = "f" },
		func(f *api.Flat) { f.Prods[0].Right[0].Alias = "f" },
		func(f *api.Flat) { f.Prods[1].Right[0].Alias = "" },
		func(f *api.Flat) { f.Prods[4].Right[1].Alias = "h" },
		func(f *api.Flat) { f.Prods[1].Right[0].Field, f.Prods[1].Right[0].Alias = "h", "" },
		func(f *api.Flat) { f.Prods[0].Right = f.Prods[0].Right[:1] },
		func(f *api.Flat) { f.Prods[2].Right = nil },
		func(f *api.Flat) { f.Prods[3].Right = []api.Item{{}} },
		func(f *api.Flat) { f.Prods[4].Right = append(f.Prods[4].Right, api.Item{}) },
		func(f *api.Flat) { slices.Reverse(f.Prods[4].Right) },
		func(f *api.Flat) { f.Prods[0], f.Prods[1] = f.Prods[1], f.Prods[0] },
		func(f *api.Flat) { f.Prods = f.Prods[:4] },
		func(f *api.Flat) { f.Prods = f.Prods[1:] },
		func(f *api.Flat) { f.Prods = append(f.Prods, api.Prod{}) },
		func(f *api.Flat) { f.Prods = nil },
		func(f *api.Flat) { *f = api.Flat{} },
	}
}

// What differs in one field alone is not the same, fit or not; what is made twice in one way is.
func TestSame(t *testing.T) {
	if !Same(small(), small()) || !Same(api.Flat{}, api.Flat{}) {
		t.Error("the same are told apart")
	}
	for i, change := range changes() {
		f, again := small(), small()
		change(&f)
		change(&again)
		if Same(f, small()) || Same(small(), f) {
			t.Errorf("change %d is not seen", i)
		}
		if !Same(f, again) {
			t.Errorf("change %d: the same are told apart", i)
		}
		for j, other := range changes()[i+1:] {
			g := small()
			other(&g)
			if Same(f, g) {
				t.Errorf("changes %d and %d are taken for one", i, i+1+j)
			}
		}
	}
}

// An empty list is none.
func TestSameOfEmptyLists(t *testing.T) {
	a := api.Flat{Nons: []string{"a"}, Prods: []api.Prod{{}}}
	b := api.Flat{Terms: []string{}, Nons: []string{"a"}, Prods: []api.Prod{{Right: []api.Item{}}}}
	if !Same(a, b) || !Same(b, a) || !Same(api.Flat{}, api.Flat{Terms: []string{}, Nons: []string{}, Prods: []api.Prod{}}) {
		t.Error("empty lists are told apart")
	}
}
