package gss

import (
	"math"
	"slices"
	"testing"

	"bramble/api"
	"bramble/sample"
)

// P16.2: nodes by their states and places.
func TestFind(t *testing.T) {
	g := sample.StackOf("2@0 5@0:0 1@3:0 2@3:1,2 9@3 5@4:3 65535@65535:0")
	if !Fit(g) {
		t.Fatal("the stack is not fit")
	}
	for _, c := range []struct{ state, at, want int }{
		{2, 0, 0}, {5, 0, 1}, {1, 3, 2}, {2, 3, 3}, {9, 3, 4}, {5, 4, 5}, {65535, 65535, 6},
		{0, 0, -1}, {3, 0, -1}, {6, 0, -1}, {1, 0, -1}, {9, 0, -1},
		{2, 1, -1}, {5, 2, -1}, {0, 3, -1}, {3, 3, -1}, {5, 3, -1}, {10, 3, -1}, {2, 4, -1}, {9, 4, -1},
		{65535, 65534, -1}, {65534, 65535, -1}, {65535, 0, -1}, {0, 65535, -1}, {65535, 3, -1},
		{-1, 0, -1}, {2, -1, -1}, {-1, -1, -1}, {65536, 65535, -1}, {65535, 65536, -1},
		{math.MinInt, 3, -1}, {math.MaxInt, 3, -1}, {2, math.MinInt, -1}, {2, math.MaxInt, -1}, {math.MaxInt, math.MaxInt, -1}, {math.MinInt, math.MinInt, -1},
		{0, 2, -1}, {3, 2, -1}, {3, 1, -1}, // a State is no At
	} {
		if got := Find(g, c.state, c.at); got != c.want || findByWords(g, c.state, c.at) != c.want {
			t.Errorf("%d at %d: %d, not %d", c.state, c.at, got, c.want)
		}
	}
	if Find(api.Gss{}, 0, 0) != -1 || Find(New(-1), -1, 0) != -1 || Find(New(7), 7, 0) != 0 || Find(New(7), 0, 7) != -1 {
		t.Error("of a stack without nodes, or with one")
	}
}

// P16.2: the nodes of a place.
func TestTop(t *testing.T) {
	g := sample.StackOf("2@0 5@0:0 1@3:0 2@3:1,2 9@3 5@4:3 65535@65535:0")
	for _, c := range []struct {
		at   int
		want []int
	}{
		{0, []int{0, 1}}, {3, []int{2, 3, 4}}, {4, []int{5}}, {65535, []int{6}},
		{1, nil}, {2, nil}, {5, nil}, {9, nil}, {65534, nil}, {65536, nil}, {-1, nil}, {math.MinInt, nil}, {math.MaxInt, nil},
	} {
		if got := Top(g, c.at); !slices.Equal(got, c.want) || !slices.Equal(topByWords(g, c.at), c.want) {
			t.Errorf("at %d: %v, not %v", c.at, got, c.want)
		}
	}
	if Top(api.Gss{}, 0) != nil || Top(g, 1) != nil || !slices.Equal(Top(New(7), 0), []int{0}) {
		t.Error("of a stack without nodes, or with one")
	}
}

// P16.2: each node of a stack of 4096, and what lies beside it.
func TestFindOfMany(t *testing.T) {
	for _, each := range []int{1, 3, 64, 4096} {
		g := sample.StackOfMany(4096, each, 2)
		for number, node := range g.Nodes {
			if got := Find(g, node.State, node.At); got != number {
				t.Fatalf("%d at %d: %d, not %d", node.State, node.At, got, number)
			}
			if Find(g, node.State+1, node.At) != -1 || Find(g, node.State-1, node.At) != -1 {
				t.Fatalf("beside %d at %d there is a node", node.State, node.At)
			}
		}
		met := 0
		for at := -1; at <= 4096; at++ {
			for _, number := range Top(g, at) {
				if number != met || g.Nodes[number].At != at {
					t.Fatalf("at %d: %v", at, Top(g, at))
				}
				met++
			}
		}
		if met != 4096 {
			t.Errorf("%d nodes are at some place", met)
		}
	}
}

// P16.2: every small stack, and drawn ones.
func TestFindAndTop(t *testing.T) {
	hold := func(g api.Gss, most int) {
		for at := -1; at <= most; at++ {
			if got := Top(g, at); !slices.Equal(got, topByWords(g, at)) {
				t.Fatalf("%v: Top at %d: %v", g, at, got)
			}
			for state := -1; state <= most; state++ {
				if got := Find(g, state, at); got != findByWords(g, state, at) {
					t.Fatalf("%v: Find of %d at %d: %d", g, state, at, got)
				}
			}
		}
	}
	for g := range sample.Stacks(4, 2, 2) {
		hold(g, 2)
	}
	seed := sample.Seed(164)
	for range 500 {
		hold(sample.FitStack(&seed, 30, 6, 6), 6)
	}
}
