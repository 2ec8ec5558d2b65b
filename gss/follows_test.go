package gss

import (
	"slices"
	"testing"

	"bramble/api"
	"bramble/sample"
)

// names is nodes by their names, in order.
func names(g api.Gss, numbers []int) []sample.Name {
	var all []sample.Name
	for _, number := range numbers {
		all = append(all, sample.NameOf(g, number))
	}
	return all
}

// holdGrows fails where a push has taken anything away: nodes, links, or what lies behind a node.
func holdGrows(t *testing.T, g, made api.Gss) {
	t.Helper()
	if !sample.PileOf(g).Within(sample.PileOf(made)) {
		t.Fatalf("%v: not all is in %v", g, made)
	}
	for number, node := range g.Nodes {
		now := Find(made, node.State, node.At)
		for n := range 5 {
			was, is := names(g, Back(g, number, n)), names(made, Back(made, now, n))
			for _, one := range was {
				if !slices.Contains(is, one) {
					t.Fatalf("%v: Back of %d by %d had %v, and in %v it has not", g, number, n, one, made)
				}
			}
		}
	}
}

// P16.7: Push keeps all that there was, upon every small stack.
func TestPushKeeps(t *testing.T) {
	for g := range sample.Stacks(3, 2, 2) {
		for from := range g.Nodes {
			for state := range 3 {
				for at := range 3 {
					made, _, _ := Push(g, from, state, at)
					holdGrows(t, g, made)
				}
			}
		}
	}
}

// P16.7: and one after another, what was behind a node at first is behind it at last.
func TestPushesKeep(t *testing.T) {
	seed := sample.Seed(168)
	for range 100 {
		first := sample.FitStack(&seed, 6, 3, 3)
		if len(first.Nodes) == 0 {
			continue
		}
		g := first
		for range 15 {
			made, number, fresh := Push(g, seed.Below(len(g.Nodes)), seed.Below(5), seed.Below(5))
			if fresh == Same(made, g) || (number == -1) && fresh {
				t.Fatalf("%v: %v, %d, %v", g, made, number, fresh)
			}
			holdGrows(t, g, made)
			g = made
		}
		holdGrows(t, first, g)
	}
}

// P16.5, P16.7: what is merged keeps all that both had, and has nothing else.
func TestMergeKeeps(t *testing.T) {
	seed := sample.Seed(169)
	for range 500 {
		a, b := sample.FitStack(&seed, 7, 3, 3), sample.FitStack(&seed, 7, 3, 3)
		made := Merge(a, b)
		holdGrows(t, a, made)
		holdGrows(t, b, made)
		if !sample.PileOf(made).Within(sample.PileOf(a, b)) {
			t.Fatalf("%v and %v: %v has more", a, b, made)
		}
	}
}

// P16.1 to P16.4: the chapter's example, step by step.
func TestExample(t *testing.T) {
	g, a, fresh := Push(New(0), 0, 1, 1)
	if a != 1 || !fresh || Find(g, 1, 1) != 1 {
		t.Fatalf("%v, %d, %v", g, a, fresh)
	}
	g, b, fresh := Push(g, 0, 2, 1)
	if b != 2 || !fresh || !slices.Equal(Top(g, 1), []int{1, 2}) {
		t.Fatalf("%v, %d, %v", g, b, fresh)
	}
	g, c, first := Push(g, a, 3, 2)
	g, d, second := Push(g, b, 3, 2)
	if c != 3 || d != 3 || !first || !second {
		t.Fatalf("%v, %d, %v, %d, %v", g, c, first, d, second)
	}
	if _, e, third := Push(g, b, 3, 2); e != 3 || third {
		t.Fatalf("again: %d, %v", e, third)
	}
	paths, err := Paths(g, c, 2)
	if !slices.Equal(Back(g, c, 1), []int{1, 2}) || !slices.Equal(Back(g, c, 2), []int{0}) || len(paths) != 2 || err != api.OK {
		t.Errorf("%v: %v, %v", g, paths, err)
	}
}
