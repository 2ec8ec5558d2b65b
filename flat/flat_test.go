package flat

import (
	"math"
	"slices"
	"strings"
	"testing"

	"bramble/api"
)

func TestHiddenTold(t *testing.T) {
	f := api.Flat{
		Terms: []string{`"_"`, `"#"`, "t", "_t", "_", "#t", "t_", "t#", " _", `"`},
		Nons:  []string{"a", "_b", "_", "#1", "#", "a_", "a#", "A1", "\"_", "__", "é"},
	}
	if !Fit(f) {
		t.Fatal("not fit")
	}
	hidden := []string{"_t", "_", "_b", "_", "#1", "#", "__"}
	var got []string
	for sym := range 21 {
		if Hidden(f, sym) {
			got = append(got, append(slices.Clone(f.Terms), f.Nons...)[sym])
		}
	}
	if !slices.Equal(got, hidden) {
		t.Errorf("%q, not %q", got, hidden)
	}
}

func TestHiddenOfNoSymbol(t *testing.T) {
	for _, f := range []api.Flat{
		{Terms: []string{"_t"}, Nons: []string{"_a", "#1"}},
		{Nons: []string{"_a", "#1", "#2"}},
		{Nons: []string{"_a"}},
		{Terms: []string{"_t"}, Nons: []string{"#1"}},
	} {
		many := len(f.Terms) + len(f.Nons)
		for _, sym := range []int{-1, -2, -many, many, many + 1, 600, math.MinInt, math.MaxInt} {
			if Hidden(f, sym) {
				t.Errorf("%d of %v is hidden", sym, f)
			}
		}
		for sym := range many {
			if !Hidden(f, sym) {
				t.Errorf("%d of %v is not hidden", sym, f)
			}
		}
	}
}

func TestOfTold(t *testing.T) {
	f := small()
	f.Nons = append(f.Nons, "#2", "#3")
	f.Prods = append(f.Prods, api.Prod{Left: 4}, api.Prod{Left: 6})
	if !Fit(f) {
		t.Fatal("not fit")
	}
	want := [][]int{nil, nil, {0, 1}, {2}, {3, 4, 5}, nil, {6}}
	for sym, places := range want {
		if got := Of(f, sym); !slices.Equal(got, places) || len(got) == 0 && got != nil {
			t.Errorf("of %d: %v, not %v", sym, got, places)
		}
	}
	for _, sym := range []int{-1, 7, 8, math.MinInt, math.MaxInt} {
		if got := Of(f, sym); got != nil {
			t.Errorf("of %d, which is no symbol: %v", sym, got)
		}
	}
	all := api.Flat{Nons: []string{"a"}, Prods: make([]api.Prod, 400)}
	for i, place := range Of(all, 0) {
		if i != place {
			t.Fatalf("place %d of all is %d", i, place)
		}
	}
	if got := len(Of(all, 0)); got != 400 {
		t.Errorf("of all: %d", got)
	}
	if got := Of(api.Flat{Nons: []string{"a"}}, 0); got != nil {
		t.Errorf("without productions: %v", got)
	}
}

func TestShowTold(t *testing.T) {
	want := strings.Join([]string{
		`a -> f:"x"=g #1 %3`,
		`a -> _b=h`,
		`_b -> t %-2`,
		`#1 ->`,
		`#1 -> #1 f:_b`,
		``,
	}, "\n")
	if got := Show(small()); got != want {
		t.Errorf("%q, not %q", got, want)
	}
	for _, c := range []struct {
		p    api.Prod
		want string
	}{
		{api.Prod{}, "a b ->\n"},
		{api.Prod{Prec: 1}, "a b -> %1\n"},
		{api.Prod{Prec: -1}, "a b -> %-1\n"},
		{api.Prod{Prec: 10000}, "a b -> %10000\n"},
		{api.Prod{Prec: -10000}, "a b -> %-10000\n"},
		{api.Prod{Right: []api.Item{{}}}, "a b -> a b\n"},
		{api.Prod{Right: []api.Item{{Sym: 1}}}, "a b -> \xff\n"},
		{api.Prod{Right: []api.Item{{Field: "f"}}}, "a b -> f:a b\n"},
		{api.Prod{Right: []api.Item{{Alias: "f"}}}, "a b -> a b=f\n"},
		{api.Prod{Right: []api.Item{{Field: "f", Alias: "f"}}, Prec: -12}, "a b -> f:a b=f %-12\n"},
		{api.Prod{Right: []api.Item{{Field: "f"}, {Sym: 1, Alias: "g"}, {}}}, "a b -> f:a b \xff=g a b\n"},
	} {
		f := api.Flat{Nons: []string{"a b", "\xff"}, Prods: []api.Prod{c.p, {Left: 1}}}
		if got := Show(f); got != c.want+"\xff ->\n" {
			t.Errorf("%v: %q, not %q", c.p, got, c.want)
		}
	}
	if got := Show(api.Flat{Terms: []string{"t"}, Nons: []string{"a"}}); got != "" {
		t.Errorf("without productions: %q", got)
	}
}

// odd is plain grammars that are not fit.
func odd() []api.Flat {
	all := []api.Flat{{}, {Terms: []string{""}}, {Nons: []string{""}}, {Prods: []api.Prod{{}}}, {Prods: []api.Prod{{Right: []api.Item{{}}}}}}
	for _, change := range changes() {
		f := small()
		change(&f)
		all = append(all, f)
	}
	for _, sym := range []int{math.MinInt, -1, 5, math.MaxInt} {
		f := small()
		f.Prods[0].Left = sym
		f.Prods[4].Right[1].Sym = sym
		f.Prods[3].Prec = sym
		f.Terms[0], f.Nons[2] = "", ""
		all = append(all, f)
	}
	wide := small()
	wide.Prods = slices.Repeat([]api.Prod{{Left: 3, Right: slices.Repeat([]api.Item{{Sym: 9}}, 1000)}}, 1000)
	wide.Terms = slices.Repeat([]string{long(100)}, 10000)
	return append(all, wide)
}

func TestUnfitEnds(t *testing.T) {
	for _, f := range odd() {
		Show(f)
		for _, sym := range []int{math.MinInt, -1, 0, 1, 2, 3, 4, 5, 6, 9999, 10000, 10005, math.MaxInt} {
			Hidden(f, sym)
			Of(f, sym)
		}
		for _, g := range odd() {
			Same(f, g)
		}
		Fit(f)
	}
}
