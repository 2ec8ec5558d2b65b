package sample

import (
	"fmt"
	"reflect"
	"testing"

	"bramble/api"
)

func TestShapes(t *testing.T) {
	for i, want := range []int{1, 1, 2, 5, 14, 42} {
		all := Shapes(i + 1)
		met := map[string]int{}
		for k := range all {
			nodes := NodesOf(&all[k])
			if len(nodes) != i+1 {
				t.Fatalf("%d nodes, not %d", len(nodes), i+1)
			}
			for at, n := range nodes {
				n.From = at
			}
		}
		for _, n := range all {
			met[fmt.Sprint(n)]++
		}
		if len(all) != want || len(met) != want {
			t.Errorf("%d trees of %d nodes, %d that differ, not %d", len(all), i+1, len(met), want)
		}
		for k := range all {
			for at, n := range NodesOf(&all[k]) {
				if n.From != at {
					t.Fatal("memory is shared")
				}
			}
		}
	}
}

func TestNodesOf(t *testing.T) {
	n := api.Node{Kind: "a", Kids: []api.Node{{Kind: "b", Kids: []api.Node{{Kind: "c"}}}, {Kind: "d"}}}
	s := ""
	for _, part := range NodesOf(&n) {
		s += part.Kind
		part.To = 7
	}
	if s != "abcd" || n.To != 7 || n.Kids[0].Kids[0].To != 7 || n.Kids[1].To != 7 {
		t.Errorf("%s, %v", s, n)
	}
}

func TestFitTrees(t *testing.T) {
	for i, wants := range [][]int{{2, 6, 12}, {4, 20, 60}, {16, 112, 448}, {80, 720, 3600}} {
		for size, want := range wants {
			all := FitTrees(i+1, 5, 5+size, "a", "b")
			met := map[string]int{}
			for _, n := range all {
				met[fmt.Sprint(n)]++
				if parts := NodesOf(&n); len(parts) != i+1 || n.From < 5 || n.To > 5+size || !kidsLieWithin(parts) {
					t.Fatalf("%d nodes: %v", i+1, n)
				}
			}
			// How many there are is counted by hand up to three nodes of one byte, and the others lie as they must and differ.
			if len(all) != want || len(met) != want {
				t.Errorf("%d trees of %d nodes, %d that differ, not %d", len(all), i+1, len(met), want)
			}
		}
	}
	if all := FitTrees(0, 0, 3, "a"); all != nil {
		t.Errorf("of no node: %v", all)
	}
}

// kidsLieWithin tells whether the kids of each of some nodes lie in order, and within it.
func kidsLieWithin(nodes []*api.Node) bool {
	for _, part := range nodes {
		at := part.From
		for _, kid := range part.Kids {
			if kid.From < at || kid.To < kid.From || kid.To > part.To {
				return false
			}
			at = kid.To
		}
		if part.To < at {
			return false
		}
	}
	return true
}

func TestFitTree(t *testing.T) {
	a, b := Seed(5), Seed(5)
	bads, kids, deep, gaps, empty := make([]int, api.NumBads), make([]int, 5), 0, 0, 0
	for range 300 {
		n := FitTree(&a, 2, 12, 4)
		if !reflect.DeepEqual(n, FitTree(&b, 2, 12, 4)) {
			t.Fatal("a seed tells other trees")
		}
		if n.From != 2 || n.To != 12 {
			t.Fatalf("%v", n)
		}
		for _, part := range NodesOf(&n) {
			bads[part.Bad]++
			kids[len(part.Kids)]++
			at := part.From
			for _, kid := range part.Kids {
				if kid.From < at || kid.To < kid.From || kid.To > part.To || part.Bad == api.BadMiss {
					t.Fatalf("%v", part)
				}
				if kid.From > at {
					gaps++
				}
				if kid.From == kid.To {
					empty++
				}
				at = kid.To
			}
		}
		deep = max(deep, depthOf(n))
	}
	for _, many := range append(append(bads, kids...), gaps, empty) {
		if many == 0 {
			t.Fatalf("each Bad so often: %v; so many kids: %v; %d gaps, %d empty ones", bads, kids, gaps, empty)
		}
	}
	if deep != 4 {
		t.Errorf("%d nodes within one another", deep)
	}
}

// depthOf is how many nodes lie within one another.
func depthOf(n api.Node) int {
	deep := 0
	for _, kid := range n.Kids {
		deep = max(deep, depthOf(kid))
	}
	return deep + 1
}

func TestAnyTree(t *testing.T) {
	a, b := Seed(5), Seed(5)
	many, bads, low := make([]int, 8), map[int]int{}, 0
	for range 500 {
		n := AnyTree(&a, 7)
		if !reflect.DeepEqual(n, AnyTree(&b, 7)) {
			t.Fatal("a seed tells other trees")
		}
		nodes := NodesOf(&n)
		many[len(nodes)]++
		for _, part := range nodes {
			bads[part.Bad]++
			if part.To < part.From || part.From < 0 {
				low++
			}
		}
	}
	for _, so := range append(many[1:], bads[-1], bads[0], bads[1], bads[2], bads[3], low) {
		if so == 0 {
			t.Fatalf("so many nodes: %v; each Bad so often: %v; %d that can't be", many, bads, low)
		}
	}
}

func TestRoomyTree(t *testing.T) {
	made := func() api.Node {
		return api.Node{Kind: "a", Named: true, Field: "f", From: 1, To: 2, Bad: 1, Kids: []api.Node{{Kind: "b", Kids: []api.Node{{Kind: "c", Kids: []api.Node{}}}}, {To: 3, Kids: []api.Node{}}}}
	}
	tree := made()
	roomy := RoomyTree(tree)
	if !TreeRoomStays(roomy) || !reflect.DeepEqual(tree, roomy) {
		t.Fatalf("%v", roomy)
	}
	for at := range NodesOf(&tree) {
		for _, grown := range []api.Node{{Kind: "k"}, {Named: true}, {Field: "f"}, {From: 1}, {To: 1}, {Bad: 1}, {Kids: []api.Node{}}} {
			h := RoomyTree(tree)
			if _ = append(NodesOf(&h)[at].Kids, grown); TreeRoomStays(h) {
				t.Errorf("%v behind the Kids of node %d is not seen", grown, at)
			}
		}
	}
	for _, n := range NodesOf(&roomy) {
		n.Bad = 9
	}
	if !reflect.DeepEqual(tree, made()) {
		t.Error("memory is shared")
	}
}

func TestEndlessTrees(t *testing.T) {
	for i, n := range EndlessTrees() {
		for range 60 {
			if len(n.Kids) == 0 {
				t.Fatalf("tree %d ends", i)
			}
			n = n.Kids[len(n.Kids)-1]
		}
	}
}
