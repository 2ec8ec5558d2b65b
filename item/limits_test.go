package item

import (
	"math"
	"slices"
	"testing"

	"bramble/api"
	"bramble/flat"
	"bramble/sample"
)

// Some 160000 items of one set, each of them begun by 400 others.
func TestGreatestClosure(t *testing.T) {
	f := sample.LeftOnes()
	mustFit(t, f)
	want := []api.Lr{{Prod: -1, Look: 399}}
	for prod := range 400 {
		for look := range 400 {
			want = append(want, api.Lr{Prod: prod, Look: look})
		}
	}
	if got := First(f); !slices.Equal(got, want) {
		t.Errorf("First: %d items, not %d", len(got), len(want))
	}
	all, err := All(f)
	if err != api.OK || len(all) != 401 || !slices.Equal(all[0], want) {
		t.Fatalf("All: %d sets, %v", len(all), err)
	}
	// Behind the whole, all productions but the one of nothing; behind each terminal one production, whatever its Look.
	if len(all[1]) != 1+399*400 {
		t.Errorf("the set behind the whole: %d items", len(all[1]))
	}
	for term, set := range all[2:] {
		if len(set) != 400 || set[0] != (api.Lr{Prod: term, Dot: 2}) || set[399] != (api.Lr{Prod: term, Dot: 2, Look: 399}) {
			t.Fatalf("the set behind %d: %d items", term, len(set))
		}
	}
	// Of one item, which ends ahead of the end, no other does.
	one := api.Lr{Prod: 7, Look: 399}
	want = slices.DeleteFunc(want, func(x api.Lr) bool { return x.Look == 399 && x != one })
	if got := Closure(f, []api.Lr{one}); !slices.Equal(got, want) {
		t.Errorf("Closure: %d items, not %d", len(got), len(want))
	}
}

// Each Look of what stands behind comes but once, however many items there are.
func TestGreatestBehind(t *testing.T) {
	// The whole is one of 99 pairs: each of a symbol that begins with any of 200 terminals, and another one.
	const terms, pairs = 200, 99
	whole, one, other := terms, terms+1, terms+2
	f := sample.Symbols(terms, 3)
	for range pairs {
		f.Prods = append(f.Prods, api.Prod{Left: whole, Right: sample.Items(whole, one, other)})
	}
	f.Prods = append(f.Prods, api.Prod{Left: whole})
	for term := range terms {
		f.Prods = append(f.Prods, api.Prod{Left: one, Right: sample.Items(term)})
	}
	f.Prods = append(f.Prods, api.Prod{Left: one}, api.Prod{Left: other, Right: sample.Items(0)}, api.Prod{Left: other})
	mustFit(t, f)
	set := First(f)
	if len(set) != 1+(pairs+1)*(terms+1) {
		t.Errorf("First: %d items", len(set))
	}
	set = Goto(f, set, whole)
	// The whole's, the pairs with their Dot behind the first of three, and each production of the second of them, ahead of all.
	if len(set) != 1+pairs*(terms+1)+(terms+1)*(terms+1) {
		t.Errorf("Goto: %d items", len(set))
	}
}

// 64 items: all can be empty, or one in the middle, or the last one, can't.
func TestMostItems(t *testing.T) {
	for _, stop := range []int{1, 2, 31, 62, 63, 64} {
		f := sample.Symbols(64, 65)
		f.Prods = []api.Prod{{Left: 64}}
		for i := range 64 {
			f.Prods[0].Right = append(f.Prods[0].Right, api.Item{Sym: 65 + i})
			f.Prods = append(f.Prods, api.Prod{Left: 65 + i, Right: sample.Items(i)})
			if i != stop {
				f.Prods = append(f.Prods, api.Prod{Left: 65 + i})
			}
		}
		mustFit(t, f)
		for dot := range 64 {
			want := []api.Lr{{Prod: 0, Dot: dot, Look: 64}}
			var looks []int
			for i := dot + 1; i < 64 && (i == dot+1 || i-1 != stop); i++ {
				looks = append(looks, i)
			}
			if dot >= stop || stop == 64 {
				looks = append(looks, 64)
			}
			for _, prod := range flat.Of(f, 65+dot) {
				for _, look := range looks {
					want = append(want, api.Lr{Prod: prod, Look: look})
				}
			}
			if got := Closure(f, want[:1]); !slices.Equal(got, want) {
				t.Fatalf("stop %d, Dot %d: %v, not %v", stop, dot, got, want)
			}
		}
	}
}

// 600 symbols, 400 productions, 64 items: sets are in order, no item is there twice, and some have too many.
func TestGreatest(t *testing.T) {
	seed := sample.Seed(25)
	many, some := 0, 0
	for _, c := range []struct{ terms, nons int }{{300, 300}, {599, 1}, {0, 600}, {590, 10}, {10, 590}, {30, 30}, {300, 10}, {2, 5}} {
		for _, most := range []int{64, 3, 2, 1} {
			f := sample.Flat(&seed, sample.Symbols(c.terms, c.nons), 400, most)
			mustFit(t, f)
			all, err := All(f)
			if err == api.ErrMany && all == nil {
				many++
				continue
			}
			if err != api.OK || len(all) < 2 || len(all) > 600 || !slices.Equal(all[0], First(f)) {
				t.Fatalf("%d sets, %v", len(all), err)
			}
			some++
			for _, set := range all {
				if !slices.IsSortedFunc(set, ahead) || len(slices.Compact(slices.Clone(set))) != len(set) {
					t.Fatal("a set is not in order")
				}
			}
		}
	}
	if many < 5 || some < 5 {
		t.Errorf("%d with too many sets, %d others", many, some)
	}
}

// ahead is the order of items, by their numbers as an array.
func ahead(a, b api.Lr) int {
	return slices.Compare([]int{a.Prod, a.Dot, a.Look}, []int{b.Prod, b.Dot, b.Look})
}

// More items than there can be in a set, most of them not fit, or there already.
func TestVeryManyItems(t *testing.T) {
	f := plain(t, "x y", "a b", "a -> b a x; a ->; b -> y a; b -> b")
	l := every(f)
	for n := range 100000 {
		l = append(l, api.Lr{Prod: n%9 - 2, Dot: n%7 - 1, Look: n%5 - 1}, api.Lr{Prod: n, Dot: -n, Look: n})
	}
	if got := Closure(f, l); !slices.Equal(got, every(f)) {
		t.Errorf("%d items, not %d", len(got), len(every(f)))
	}
	for sym := -1; sym < 5; sym++ {
		if got, want := Goto(f, l, sym), gotoByWords(f, every(f), sym); !slices.Equal(got, want) {
			t.Errorf("by %d: %v, not %v", sym, got, want)
		}
	}
}

// 0.1: whatever a call is given, it ends.
func TestOdd(t *testing.T) {
	var l []api.Lr
	for _, n := range []int{-2, -1, 0, 1, 2, 3, 64, 65, 399, 400, 401, 600, 100000, math.MaxInt, math.MinInt} {
		for dot := -1; dot < 3; dot++ {
			l = append(l, api.Lr{Prod: n, Dot: dot}, api.Lr{Prod: n, Dot: dot, Look: n}, api.Lr{Prod: -1, Dot: dot, Look: n}, api.Lr{Dot: n, Look: dot})
		}
	}
	for _, f := range sample.OddFlats() {
		First(f)
		All(f)
		Closure(f, l)
		for _, sym := range []int{-1, 0, 1, 2, 64, 600, 100000, math.MinInt, math.MaxInt} {
			Goto(f, l, sym)
		}
		for _, x := range l {
			Fit(f, x)
			Next(f, x)
		}
	}
}
