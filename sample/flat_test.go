package sample

import (
	"fmt"
	"reflect"
	"slices"
	"testing"

	"bramble/api"
)

func TestFlatOf(t *testing.T) {
	want := api.Flat{Terms: []string{"x", "y"}, Nons: []string{"a", "b"}, Prods: []api.Prod{
		{Left: 2, Right: []api.Item{{Sym: 3}, {Sym: 0}}}, {Left: 3, Prec: -7}, {Left: 3, Right: []api.Item{{Sym: 1}}, Prec: 20}, {Left: -1, Right: []api.Item{{Sym: -1}}},
	}}
	if got := FlatOf("x y", "a b", "a -> b x; b -> %-7; b -> y % 20; c -> d"); !reflect.DeepEqual(got, want) {
		t.Errorf("%v, not %v", got, want)
	}
	if got := FlatOf("", "a", " "); len(got.Terms) != 0 || len(got.Nons) != 1 || got.Prods != nil {
		t.Errorf("%v", got)
	}
}

func TestSymbols(t *testing.T) {
	if got := Symbols(2, 3); !slices.Equal(got.Terms, []string{"t0", "t1"}) || !slices.Equal(got.Nons, []string{"n0", "n1", "n2"}) || got.Prods != nil {
		t.Errorf("%v", got)
	}
	if got := Symbols(0, 0); got.Terms != nil || got.Nons != nil {
		t.Errorf("%v", got)
	}
}

// rising tells whether productions are by Left rising, each one of a plain grammar's symbols.
func rising(f api.Flat) bool {
	for i, p := range f.Prods {
		if p.Left < len(f.Terms) || p.Left >= len(f.Terms)+len(f.Nons) || i > 0 && p.Left < f.Prods[i-1].Left {
			return false
		}
		for _, item := range p.Right {
			if item.Sym < 0 || item.Sym >= len(f.Terms)+len(f.Nons) {
				return false
			}
		}
	}
	return true
}

func TestFlatDrawn(t *testing.T) {
	a, b := Seed(5), Seed(5)
	syms, sizes := make([]int, 5), make([]int, 4)
	for range 300 {
		f := Flat(&a, Symbols(2, 3), 6, 3)
		if !reflect.DeepEqual(f, Flat(&b, Symbols(2, 3), 6, 3)) {
			t.Fatal("a seed tells other plain grammars")
		}
		if len(f.Prods) != 6 || !rising(f) {
			t.Fatalf("%v", f)
		}
		for _, p := range f.Prods {
			sizes[len(p.Right)]++
			for _, i := range p.Right {
				syms[i.Sym]++
			}
		}
	}
	if slices.Contains(syms, 0) || slices.Contains(sizes, 0) {
		t.Errorf("each symbol so often: %v; so many items so often: %v", syms, sizes)
	}
}

func TestProds(t *testing.T) {
	f := Symbols(2, 2)
	f.Prods = Prods(f, 2)
	met := map[string]int{}
	for _, p := range f.Prods {
		met[fmt.Sprint(p)]++
	}
	// Of each of two Lefts: of no items, of one of four, of two of four.
	if len(f.Prods) != 42 || len(met) != 42 || !rising(f) {
		t.Errorf("%d productions, %d unlike", len(f.Prods), len(met))
	}
	if all := Prods(Symbols(1, 3), 0); len(all) != 3 {
		t.Errorf("%v", all)
	}
}

func TestFlats(t *testing.T) {
	met := map[string]int{}
	sizes := make([]int, 3)
	for f := range Flats(Symbols(1, 2), 2, 1) {
		if !rising(f) {
			t.Fatalf("%v", f)
		}
		met[fmt.Sprint(f.Prods)]++
		sizes[len(f.Prods)]++
	}
	// Of each of two Lefts four productions: of two, 4 times 3 of either Left, 4 times 4 of both.
	if !slices.Equal(sizes, []int{1, 8, 40}) || len(met) != 49 {
		t.Errorf("%v, %d unlike", sizes, len(met))
	}
	n := 0
	for range Flats(Symbols(1, 2), 2, 1) {
		n++
		if n == 9 {
			break
		}
	}
}

func TestRoomyFlat(t *testing.T) {
	made := func() api.Flat {
		return api.Flat{Terms: []string{"x"}, Nons: []string{"a", "b"}, Prods: []api.Prod{
			{Left: 1, Right: []api.Item{{Sym: 2, Field: "f", Alias: "g"}}, Prec: 3}, {Left: 2, Right: []api.Item{}},
		}}
	}
	f := made()
	g := RoomyFlat(f)
	if !FlatRoomStays(g) || !reflect.DeepEqual(f, g) {
		t.Fatalf("%v", g)
	}
	for i, grow := range []func(api.Flat){
		func(f api.Flat) { _ = append(f.Terms, "z") },
		func(f api.Flat) { _ = append(f.Nons, "z") },
		func(f api.Flat) { _ = append(f.Prods, api.Prod{Left: 1}) },
		func(f api.Flat) { _ = append(f.Prods, api.Prod{Prec: 1}) },
		func(f api.Flat) { _ = append(f.Prods, api.Prod{Right: []api.Item{}}) },
		func(f api.Flat) { _ = append(f.Prods[0].Right, api.Item{Sym: 1}) },
		func(f api.Flat) { _ = append(f.Prods[1].Right, api.Item{Alias: "z"}) },
	} {
		h := RoomyFlat(f)
		if grow(h); FlatRoomStays(h) {
			t.Errorf("growth %d is not seen", i)
		}
	}
	g.Terms[0], g.Nons[1], g.Prods[1].Left, g.Prods[0].Right[0].Sym = "z", "z", 1, 1
	if !reflect.DeepEqual(f, made()) {
		t.Error("memory is shared")
	}
}

func TestItems(t *testing.T) {
	if got := Items(3, -1, 3); !slices.Equal(got, []api.Item{{Sym: 3}, {Sym: -1}, {Sym: 3}}) {
		t.Errorf("%v", got)
	}
	if got := Items(); got != nil {
		t.Errorf("%v of none", got)
	}
}

func TestOddFlats(t *testing.T) {
	most, wrong := api.Flat{}, 0
	for _, f := range OddFlats() {
		most.Terms, most.Nons, most.Prods = longer(most.Terms, f.Terms), longer(most.Nons, f.Nons), longer(most.Prods, f.Prods)
		if !rising(f) {
			wrong++
		}
	}
	if len(most.Terms) != 100000 || len(most.Nons) != 100000 || len(most.Prods) != 200000 || wrong < 20 {
		t.Errorf("at most %d terminals, %d others, %d productions; %d with a wrong number", len(most.Terms), len(most.Nons), len(most.Prods), wrong)
	}
}

func TestFitFlats(t *testing.T) {
	all := FitFlats()
	for i, f := range all {
		if !rising(f) || len(f.Terms)+len(f.Nons) > 600 || len(f.Prods) > 400 {
			t.Errorf("grammar %d is not fit", i)
		}
	}
	heights := heightsOf(all[1])
	if heights[1] != 400 || Round(all[1]) || !Round(all[2]) {
		t.Errorf("the second one is %d high", heights[1])
	}
}

func longer[T any](a, b []T) []T {
	if len(a) < len(b) {
		return b
	}
	return a
}

func TestDressedFlat(t *testing.T) {
	f := FlatOf("x y", "a", "a -> x a; a ->")
	was := fmt.Sprint(f)
	want := api.Flat{Terms: []string{"#1", "#1"}, Nons: []string{"#1"}, Prods: []api.Prod{
		{Left: 2, Right: []api.Item{{Sym: 0, Field: "f", Alias: "_g"}, {Sym: 2, Field: "f", Alias: "_g"}}, Prec: 10000}, {Left: 2, Right: []api.Item{}, Prec: -10000},
	}}
	if got := DressedFlat(f); !reflect.DeepEqual(got, want) || fmt.Sprint(f) != was {
		t.Errorf("%v, not %v; %v was %s", got, want, f, was)
	}
}
