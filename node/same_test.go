package node

import (
	"math"
	"testing"

	"bramble/api"
	"bramble/sample"
)

// changes is every way in which one field of one node alone can be another one.
func changes() []func(n *api.Node) {
	return []func(n *api.Node){
		func(n *api.Node) { n.Kind += "x" },
		func(n *api.Node) { n.Kind += "\x00" },
		func(n *api.Node) { n.Named = !n.Named },
		func(n *api.Node) { n.Field += "x" },
		func(n *api.Node) { n.Field += " " },
		func(n *api.Node) { n.From++ },
		func(n *api.Node) { n.From += 1 << 32 },
		func(n *api.Node) { n.To-- },
		func(n *api.Node) { n.To += math.MinInt },
		func(n *api.Node) { n.Bad++ },
		func(n *api.Node) { n.Bad -= 3 },
		func(n *api.Node) { n.Kids = append([]api.Node{{}}, n.Kids...) },
		func(n *api.Node) { n.Kids = append(n.Kids[:len(n.Kids):len(n.Kids)], api.Node{}) },
	}
}

// P14.1: trees that differ in one field of one node.
func TestSame(t *testing.T) {
	seed := sample.Seed(43)
	trees := []api.Node{{}, of("r", 0, 4), row(33), side(40), of("r", 0, 4, of("a", 0, 2, of("b", 0, 1)), of("a", 2, 4))}
	for range 40 {
		trees = append(trees, sample.AnyTree(&seed, 9), sample.FitTree(&seed, 0, 9, 4))
	}
	for i, a := range trees {
		if !Same(a, sample.RoomyTree(a)) || !Same(sample.RoomyTree(a), a) || !Same(a, a) {
			t.Errorf("tree %d is not the same as it is", i)
		}
		for at := range sample.NodesOf(&a) {
			for what, change := range changes() {
				b := sample.RoomyTree(a)
				if change(sample.NodesOf(&b)[at]); Same(a, b) || Same(b, a) {
					t.Errorf("tree %d, change %d of node %d: %v, %v", i, what, at, Same(a, b), Same(b, a))
				}
			}
		}
	}
}

// Two trees are the same just if they have the same nodes in the same places.
func TestSameOfShapes(t *testing.T) {
	var all []api.Node
	for nodes := 1; nodes <= 6; nodes++ {
		all = append(all, sample.Shapes(nodes)...)
	}
	for i, a := range all {
		for k, b := range all {
			if Same(a, b) != (i == k) {
				t.Errorf("trees %d and %d: %v", i, k, i != k)
			}
		}
	}
}

// What differs is in a node's Field, or in its Kind: they are not one text.
func TestSameKeepsFieldsApart(t *testing.T) {
	for _, c := range [][2]api.Node{
		{in("a", of("b", 0, 1)), in("b", of("a", 0, 1))},
		{in("a", of("bc", 0, 1)), in("ab", of("c", 0, 1))},
		{of("a", 1, 2), of("a", 2, 1)},
		{of("a", 1, 0), bad(1, of("a", 0, 0))},
		{of("a", 0, 4, of("b", 0, 1), of("c", 1, 2)), of("a", 0, 4, of("c", 1, 2), of("b", 0, 1))},
		{of("a", 0, 4, of("b", 0, 1)), of("a", 0, 4, of("b", 0, 1), of("b", 0, 1))},
	} {
		if Same(c[0], c[1]) || Same(c[1], c[0]) {
			t.Errorf("%v and %v are the same", c[0], c[1])
		}
	}
}

// P14.1: the deepest and the last node are looked at, too.
func TestSameOfGreatest(t *testing.T) {
	for _, made := range []func() api.Node{func() api.Node { return row(5000) }, func() api.Node { return side(4999) }} {
		a, b := made(), made()
		if !Same(a, b) {
			t.Error("5000 nodes are not the same as they are")
		}
		if sample.NodesOf(&b)[4999].Field = "f"; Same(a, b) || Same(b, a) {
			t.Error("the last of 5000 nodes is not looked at")
		}
	}
}
