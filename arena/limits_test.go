package arena

import (
	"math"
	"reflect"
	"testing"

	"bramble/api"
	"bramble/sample"
)

// A text can have trees of more than 5000 nodes: where there is room for what is alike, they are kept, though the arena is not fit.
func TestMoreThanFit(t *testing.T) {
	for _, kids := range []int{5000, 5001, 70000, 1<<20 - 1} {
		n := many(kids)
		a := added(t, New(), sample.TreeOf("x(y)"), n, sample.TreeOf("r(b)"))
		if Fit(a) || Live(a) != 5 || Shared(a, 1, 2) != 1 {
			t.Errorf("%d kids: Fit: %v, %d are live", kids, Fit(a), Live(a))
		}
		got, err := Read(a, 1)
		if err != api.OK || len(got.Kids) != kids || !isTree(got.Kids[kids-1], n.Kids[0]) {
			t.Errorf("%d kids: %v, %d are told", kids, err, len(got.Kids))
		}
		if a = dropped(t, a, 1); !Fit(a) || Live(a) != 4 {
			t.Errorf("%d kids: %d are live behind Drop", kids, Live(a))
		}
	}
	was := added(t, New(), sample.TreeOf("x(y)"))
	for i, n := range append(sample.EndlessTrees(), many(1<<20), side(65536), row(1<<16), row(1<<16+1)) {
		if a, h, err := Add(was, n); !isSame(a, was) || h != 0 || err != api.ErrFull {
			t.Errorf("tree %d: %d, %v", i, h, err)
		}
	}
	for _, a := range []api.Arena{was, added(t, was, many(5000))} {
		for len(a.Roots) < 4096 {
			a.Roots = append(a.Roots, -1)
		}
		for i, n := range sample.EndlessTrees() {
			if got, h, err := Add(a, n); !isSame(got, a) || h != 0 || err != api.ErrMany {
				t.Errorf("tree %d: %d, %v", i, h, err)
			}
		}
	}
}

// oddArenas is arenas that are not fit.
func oddArenas() []api.Arena {
	far := []int{math.MinInt, -2, -1, 0, 1, 4096, 65536, math.MaxInt}
	all := append(sample.EndlessArenas(), api.Arena{}, api.Arena{Slots: make([]api.Slot, 5000)}, api.Arena{Free: -1, Roots: make([]int, 5000)})
	for _, n := range far {
		slot := api.Slot{Node: api.Node{From: n, To: -n, Bad: n}, Kids: far, Refs: n, Next: n}
		all = append(all, api.Arena{Slots: []api.Slot{slot, slot, slot}, Free: n, Roots: far})
		slot.Kids = nil
		all = append(all, api.Arena{Slots: []api.Slot{slot, slot}, Free: n, Roots: []int{n}})
	}
	wide := sample.ArenaOf("-1 | 0 | a*1 b")
	wide.Slots[0].Kids = make([]int, 1<<20)
	for i := range wide.Slots[0].Kids {
		wide.Slots[0].Kids[i] = 1
	}
	wide.Slots[1].Refs = 1 << 20
	seed := sample.Seed(205)
	for range 400 {
		a := sample.FitArena(&seed, 5)
		for range 3 {
			a = sample.BentArena(&seed, a)
		}
		all = append(all, a)
	}
	return append(all, wide)
}

// 0.1: whatever a call is given, it ends.
func TestOdd(t *testing.T) {
	numbers := []int{math.MinInt, -1, 0, 1, 2, 4096, math.MaxInt}
	trees := append(sample.EndlessTrees(), api.Node{}, sample.TreeOf("a@9,1(b@-1,4)"), row(3))
	arenas := oddArenas()
	for _, a := range arenas {
		for _, n := range trees {
			Add(a, n)
		}
		for _, h := range numbers {
			Drop(a, h)
			Read(a, h)
			for _, g := range numbers {
				Shared(a, g, h)
			}
		}
		Live(a)
		if Fit(a) != fitByWords(a) {
			t.Errorf("%v: Fit: %v", a, Fit(a))
		}
	}
	for i, a := range arenas[:30] {
		for k, b := range arenas[:30] {
			if Same(a, b) != Same(b, a) {
				t.Errorf("arenas %d and %d are the same, and not the other way round", i, k)
			}
		}
	}
}

// Of an arena that can't be nothing is told, beside ErrState; of a node that has no end none is the same.
func TestUnfit(t *testing.T) {
	unfit := 0
	arenas := oddArenas()
	for i, a := range arenas[:len(arenas)-1] { // the last one is but too great to be fit
		if fitByWords(a) {
			continue
		}
		unfit++
		made, h, err := Add(a, api.Node{Kind: "x"})
		if !reflect.DeepEqual(made, api.Arena{}) || h != 0 || err != api.ErrState {
			t.Fatalf("arena %d: Add: %v, %d, %v", i, made, h, err)
		}
		made, err = Drop(a, 0)
		if !reflect.DeepEqual(made, api.Arena{}) || err != api.ErrState {
			t.Fatalf("arena %d: Drop: %v, %v", i, made, err)
		}
		n, err := Read(a, 0)
		alike := err == api.OK || err == api.ErrNone // Read does not ask whether two slots are alike
		if !alike && (!reflect.DeepEqual(n, api.Node{}) || err != api.ErrState || Shared(a, 0, 0) != 0) {
			t.Fatalf("arena %d: Read: %v, %v", i, n, err)
		}
	}
	if unfit < 100 {
		t.Errorf("only %d", unfit)
	}
	for i, n := range sample.EndlessTrees() {
		a := api.Arena{Slots: []api.Slot{{Node: n}}}
		if Same(a, a) || Same(a, api.Arena{Slots: make([]api.Slot, 1)}) || Same(api.Arena{Slots: make([]api.Slot, 1)}, a) {
			t.Errorf("tree %d: the same", i)
		}
	}
}
