package arena

import (
	"math"
	"slices"
	"testing"

	"bramble/api"
	"bramble/sample"
)

// P20.3: what becomes free, and in what order.
func TestDrop(t *testing.T) {
	for _, c := range []struct {
		what, was string
		h         int
		then      string
	}{
		{"a node alone", "-1 | 0 | a*1", 0, "0 | -1 | >-1"},
		{"ahead of those that are free", "2 | 0 | a*1 >-1 >1", 0, "0 | -1 | >2 >-1 >1"},
		{"a tree ahead of those that are free", "3 | 0 | a*1:1 b*1 >-1 >2", 0, "1 | -1 | >3 >0 >-1 >2"},
		{"its kids, from the left", "-1 | 2 | b*1 c*1 a*1:0,1", 0, "1 | -1 | >2 >0 >-1"},
		{"its kids, from the left, not by their places", "-1 | 2 | b*1 c*1 a*1:1,0", 0, "0 | -1 | >1 >2 >-1"},
		{"what is within a kid ahead of the next one", "-1 | 0 | a*1:1,3 b*1:2 c*1 d*1", 0, "3 | -1 | >-1 >0 >1 >2"},
		{"what is within a kid, and within that", "-1 | 0 | a*1:1,4 b*1:2,3 c*1 d*1 e*1:5 f*1", 0, "5 | -1 | >-1 >0 >1 >2 >3 >4"},
		{"within one another", "-1 | 2 | c*1 b*1:0 a*1:1", 0, "0 | -1 | >1 >2 >-1"},
		{"a kid twice", "-1 | 0 | a*1:1,1 b*2", 0, "1 | -1 | >-1 >0"},
		{"a kid twice, another one between", "-1 | 0 | a*1:1,2,1 b*2 c*1", 0, "1 | -1 | >-1 >2 >0"},
		{"a kid twice, and others", "-1 | 0 | a*1:1,1,2 b*2:3 c*1 d*1", 0, "2 | -1 | >-1 >0 >3 >1"},
		{"a kid, and one within it, which comes first", "-1 | 0 | a*1:1,2 b*2 c*1:1", 0, "1 | -1 | >-1 >2 >0"},
		{"a kid, and one within it, which comes last", "-1 | 0 | a*1:2,1 b*2 c*1:1", 0, "1 | -1 | >-1 >2 >0"},
		{"a kid of two kids", "-1 | 0 | a*1:1,2 b*1:3 c*1:3 d*2", 0, "3 | -1 | >-1 >0 >1 >2"},

		{"shared wholly, the first", "-1 | 0 0 | a*2:1 b*1", 0, "-1 | -1 0 | a*1:1 b*1"},
		{"shared wholly, the last", "-1 | 0 0 | a*2:1 b*1", 1, "-1 | 0 -1 | a*1:1 b*1"},
		{"shared wholly, within another one", "-1 | 0 1 | a*1:1 b*2:2 c*1", 1, "-1 | 0 -1 | a*1:1 b*1:2 c*1"},
		{"shared but for its root", "-1 | 0 1 | a*1:2 b*1:2 c*2", 0, "0 | -1 1 | >-1 b*1:2 c*1"},
		{"shared but for what is above a handle's", "-1 | 0 1 | a*1:1 b*2:2 c*1", 0, "0 | -1 1 | >-1 b*1:2 c*1"},
		{"shared in part", "-1 | 0 3 | a*1:1,2 b*1 c*2 d*1:2", 0, "1 | -1 3 | >-1 >0 c*1 d*1:2"},
		{"shared in part, a kid twice", "-1 | 0 1 | a*1:2,2,3 b*1:2 c*3 d*1", 0, "3 | -1 1 | >-1 b*1:2 c*1 >0"},
		{"shared not at all", "-1 | 0 2 | a*1:1 b*1 c*1", 0, "1 | -1 2 | >-1 >0 c*1"},
		{"behind handles that are released", "-1 | -1 0 -1 | a*1", 1, "0 | -1 -1 -1 | >-1"},
	} {
		a, then := sample.ArenaOf(c.was), sample.ArenaOf(c.then)
		got, err := Drop(a, c.h)
		if !isSame(got, then) || err != api.OK {
			t.Errorf("%s: %v, %v, not %v", c.what, got, err, then)
		}
		if !Fit(a) || !Fit(then) {
			t.Errorf("%s: not fit", c.what)
		}
		holdDrop(t, a, c.h)
		holdTold(t, got)
	}
}

// P20.3, P20.4, P20.5: a handle that is none, below 0, released already.
func TestNoHandle(t *testing.T) {
	for _, s := range []string{"-1 | |", "0 | | >-1", "-1 | -1 |", "-1 | 0 -1 | a*1", "-1 | -1 1 0 | b*2 a*1:0", "2 | -1 0 -1 | a*1:1,1 b*2 >-1"} {
		a := sample.ArenaOf(s)
		for _, h := range []int{math.MinInt, -2, -1, 0, 1, 2, 3, 4, 4095, 4096, math.MaxInt} {
			if h >= 0 && h < len(a.Roots) && a.Roots[h] != -1 {
				continue
			}
			if got, err := Drop(a, h); !isSame(got, a) || err != api.ErrNone {
				t.Errorf("Drop of %d of %s: %v, %v", h, s, got, err)
			}
			if got, err := Read(a, h); !isTree(got, api.Node{}) || err != api.ErrNone {
				t.Errorf("Read of %d of %s: %v, %v", h, s, got, err)
			}
			for g := -1; g <= len(a.Roots); g++ {
				if Shared(a, g, h) != 0 || Shared(a, h, g) != 0 {
					t.Errorf("Shared of %d and %d of %s: %d, %d", g, h, s, Shared(a, g, h), Shared(a, h, g))
				}
			}
		}
	}
}

// P20.3, P20.7: all handles released, in any order.
func TestDropOfAll(t *testing.T) {
	trees := []api.Node{sample.TreeOf("a(b c)"), sample.TreeOf("b"), sample.TreeOf("a(b c)"), sample.TreeOf("r(a(b c) a(c b) b b)"), sample.TreeOf("a@3,4(b@3,3 d@4,4(b@4,4))")}
	a := added(t, New(), trees...)
	holdTold(t, a)
	for order := range orders(len(trees)) {
		now := a
		for i, h := range order {
			now, _ = holdDrop(t, now, h)
			holdTold(t, now)
			for _, other := range order[i+1:] {
				if n, err := Read(now, other); !isTree(n, trees[other]) || err != api.OK {
					t.Fatalf("%v, %d released: %d is %v, %v", order, i+1, other, n, err)
				}
			}
		}
		if Live(now) != 0 || len(now.Slots) != len(a.Slots) {
			t.Fatalf("%v: %d are live", order, Live(now))
		}
		again := added(t, now, trees...)
		if len(again.Slots) != len(a.Slots) || Live(again) != Live(a) || again.Free != -1 || !Fit(again) {
			t.Fatalf("%v: added again %d are live, in %d slots", order, Live(again), len(again.Slots))
		}
	}
}

// orders hands out all orders of the numbers below n.
func orders(n int) func(yield func([]int) bool) {
	return func(yield func([]int) bool) {
		if n == 0 {
			yield(nil)
			return
		}
		for order := range orders(n - 1) {
			for at := range n {
				if !yield(slices.Insert(slices.Clone(order), at, n-1)) {
					return
				}
			}
		}
	}
}

// What is released is forgotten: a builder that goes on lays it anew.
func TestBuilderForgets(t *testing.T) {
	trees := []api.Node{sample.TreeOf("a(b c)"), sample.TreeOf("r(a(b c) a(c b) b b)"), sample.TreeOf("a@3,4(b@3,3)")}
	b, ok := open(New())
	if !ok {
		t.Fatal("New is not fit")
	}
	for range 3 {
		var laid []int
		for _, n := range trees {
			place, ok := b.lay(n, 0)
			if !ok {
				t.Fatal("no room")
			}
			b.Slots[place].Refs++
			b.Roots = append(b.Roots, place)
			laid = append(laid, len(b.Roots)-1)
		}
		for _, h := range laid {
			places, ok := placesOf(b.Arena, fitNodes)
			if !ok || len(places) != len(b.places) {
				t.Fatalf("%v: %v", b.Arena, b.places)
			}
			for what, place := range places {
				if got, there := b.places[what]; !there || got != place {
					t.Fatalf("%v is in slot %d, not %d", what, place, got)
				}
			}
			place := b.Roots[h]
			b.Roots[h] = -1
			b.release(place)
		}
	}
	if len(b.places) != 0 || Live(b.Arena) != 0 || !Fit(b.Arena) {
		t.Errorf("%v: %v", b.Arena, b.places)
	}
}
