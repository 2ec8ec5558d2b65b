package cursor

import (
	"slices"
	"testing"

	"bramble/api"
	"bramble/node"
	"bramble/sample"
)

// holdFollows fails where P21.4 or P21.5 does not hold of a tree.
func holdFollows(t *testing.T, n api.Node) {
	t.Helper()
	all := All(n)
	at, ok := []int(nil), true
	for i, path := range all {
		if !ok || !slices.Equal(at, path) {
			t.Fatalf("Next comes to %.20v, %v, not to %.20v", at, ok, path)
		}
		if i > 0 && Order(all[i-1], path) != -1 {
			t.Fatalf("All does not rise at %d: %.20v, %.20v", i, all[i-1], path)
		}
		holdBack(t, n, path)
		at, ok = Next(n, path)
	}
	if ok || at != nil {
		t.Fatalf("Next behind all: %.20v", at)
	}
}

// holdBack fails where P21.5 does not hold at a path, or its like for Left, Field and the root.
func holdBack(t *testing.T, n api.Node, path []int) {
	t.Helper()
	if down, ok := Down(n, path); ok {
		if up, ok := Up(n, down); !ok || !slices.Equal(up, path) {
			t.Fatalf("Up of %.20v: %.20v, %v", down, up, ok)
		}
	}
	if right, ok := Right(n, path); ok {
		if left, ok := Left(n, right); !ok || !slices.Equal(left, path) {
			t.Fatalf("Left of %.20v: %.20v, %v", right, left, ok)
		}
	}
	if left, ok := Left(n, path); ok {
		if right, ok := Right(n, left); !ok || !slices.Equal(right, path) {
			t.Fatalf("Right of %.20v: %.20v, %v", left, right, ok)
		}
	}
	if _, ok := Up(n, path); ok != (len(path) > 0) {
		t.Fatalf("Up of %.20v: %v", path, ok)
	}
}

// P21.1, P21.2, P21.4, P21.5: every tree of at most 5 nodes, with every path of at most 4 numbers from -1 to 5.
func TestEverySmallTree(t *testing.T) {
	paths := sample.Rows([]int{-1, 0, 1, 2, 3, 4, 5}, 4)
	for nodes := range 6 {
		for _, n := range sample.Shapes(nodes) {
			all := holdAll(t, n)
			holdFollows(t, n)
			for _, path := range paths {
				holdMoves(t, n, all, path)
			}
		}
	}
}

// P21.1: every tree of at most 4 nodes, each of them with a Field, with another one, or with none.
func TestEverySmallField(t *testing.T) {
	paths := sample.Rows([]int{-1, 0, 1, 2, 3}, 3)
	for nodes, ways := 1, 3; nodes <= 4; nodes, ways = nodes+1, 3*ways {
		for way := range ways {
			for _, n := range sample.Shapes(nodes) {
				rest := way
				for _, part := range sample.NodesOf(&n) {
					part.Field = []string{"", "f", "g"}[rest%3]
					rest /= 3
				}
				all := allByWords(n)
				for _, path := range paths {
					holdFields(t, n, all, path, "", "f", "g", "h")
				}
			}
		}
	}
}

// bent is a path with another number at a place, or one more, or one less.
func bent(seed *sample.Seed, path []int) []int {
	l := slices.Clone(path)
	switch seed.Below(3) {
	case 0:
		return append(l, seed.Below(5)-1)
	case 1:
		return l[:seed.Below(len(l)+1)]
	}
	if len(l) > 0 {
		l[seed.Below(len(l))] += seed.Below(7) - 3
	}
	return l
}

// P21.1, P21.2, P21.4, P21.5: drawn trees, with their paths and such as are a little other.
func TestDrawn(t *testing.T) {
	seed := sample.Seed(2101)
	most := 0
	for range 300 {
		n := sample.AnyTree(&seed, 40)
		if seed.Below(2) == 0 {
			n = sample.FitTree(&seed, 0, 20, 5)
		}
		all := holdAll(t, n)
		most = max(most, len(all))
		holdFollows(t, n)
		for _, path := range all {
			for _, at := range [][]int{path, bent(&seed, path), bent(&seed, path)} {
				holdMoves(t, n, all, at)
				holdFields(t, n, all, at, "", "f", "g")
			}
		}
	}
	if most < 40 {
		t.Errorf("no tree has more than %d nodes", most)
	}
}

// P21.4: what Order tells of two paths is how they lie in All.
func TestOrderIsPlace(t *testing.T) {
	seed := sample.Seed(2104)
	for range 40 {
		all := All(sample.AnyTree(&seed, 40))
		for i, a := range all {
			for k, b := range all {
				if Order(a, b) != min(1, max(-1, i-k)) {
					t.Errorf("%v at %d, %v at %d: %d", a, i, b, k, Order(a, b))
				}
			}
		}
	}
}

// towers is rows of 30 nodes side by side, of so many nodes in all.
func towers(nodes int) api.Node {
	n := api.Node{Kind: "r"}
	for left := nodes - 1; left > 0; left -= 30 {
		n.Kids = append(n.Kids, row(min(left, 30)))
	}
	return n
}

// P21.2, P21.4, P21.5: just 5000 nodes, within one another, side by side, and both.
func TestGreatest(t *testing.T) {
	broad := side(1666)
	for i := range broad.Kids {
		broad.Kids[i] = side(2)
	}
	broad.Kids = append(broad.Kids, api.Node{})
	for i, n := range []api.Node{row(5000), side(4999), towers(5000), comb(1666), broad} {
		nodes, _ := node.Count(n)
		if nodes != 5000 && nodes != 4999 {
			t.Fatalf("tree %d has %d nodes", i, nodes)
		}
		if all := All(n); len(all) != nodes {
			t.Errorf("tree %d: %d paths", i, len(all))
		}
		holdFollows(t, n)
	}
}
