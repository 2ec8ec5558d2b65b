package node

import (
	"fmt"
	"reflect"
	"slices"
	"testing"

	"bramble/api"
	"bramble/sample"
)

// callAll calls everything with a tree, another one and a path.
func callAll(n, other api.Node, path []int) {
	Same(n, other)
	Same(other, n)
	Print(n)
	Leaves(n)
	Count(n)
	Wrong(n)
	Find(n, path)
	for i := -1; i < 9; i++ {
		Fit(n, i)
		Move(n, i)
		for k := -1; k < 9; k++ {
			At(n, i, k)
		}
	}
}

// trees is some that are drawn, and one with lists of none.
func trees() []api.Node {
	seed := sample.Seed(53)
	all := []api.Node{sample.RoomyTree(of("a", 0, 8, of("b", 0, 4, of("c", 0, 4)), of("b", 4, 8)))}
	for range 60 {
		all = append(all, sample.AnyTree(&seed, 9), sample.FitTree(&seed, 0, 8, 4))
	}
	return all
}

// 0.5: what a call is given is as it was, and so is what lies behind it.
func TestArgumentsStay(t *testing.T) {
	for i, was := range trees() {
		n, other := sample.RoomyTree(was), sample.RoomyTree(was)
		path := slices.Grow([]int{0, 1, 0, 2}, 4)[:3]
		callAll(n, other, path)
		for _, now := range []api.Node{n, other} {
			if !reflect.DeepEqual(now, sample.RoomyTree(was)) || !sample.TreeRoomStays(now) {
				t.Errorf("tree %d has changed", i)
			}
		}
		if !slices.Equal(path[:4], []int{0, 1, 0, 2}) {
			t.Errorf("the path has changed: %v", path[:4])
		}
	}
}

// spoil writes over a tree's kids, and behind them.
func spoil(n api.Node) {
	for _, kid := range n.Kids {
		spoil(kid)
	}
	l := n.Kids[:cap(n.Kids)]
	for i := range l {
		l[i] = api.Node{Kind: "spoilt", From: 77}
	}
}

// answers is all that is told of a tree in memory that could be shared: written out, and a call that spoils it.
func answers(n api.Node) (string, func()) {
	leaves, moved, path := Leaves(n), Move(n, 3), At(n, 1, 2)
	stays := Move(n, 0)
	found, _ := Find(n, nil)
	kid, _ := Find(n, []int{0})
	told := fmt.Sprint(leaves, moved, path, stays, found, kid)
	return told, func() {
		for _, leaf := range leaves {
			spoil(leaf)
		}
		clear(leaves[:cap(leaves)])
		clear(path[:cap(path)])
		for _, tree := range []api.Node{moved, stays, found, kid} {
			spoil(tree)
		}
	}
}

// 0.5: what is told lies in memory of its own: what is written over it is seen in no argument and in no other answer.
func TestAnswersShareNothing(t *testing.T) {
	for i, was := range trees() {
		n := sample.RoomyTree(was)
		told, spoilAll := answers(n)
		spoilAll()
		if !reflect.DeepEqual(n, sample.RoomyTree(was)) || !sample.TreeRoomStays(n) {
			t.Errorf("tree %d has changed with what was told of it", i)
		}
		if again, _ := answers(n); again != told {
			t.Errorf("tree %d: %s, not %s", i, again, told)
		}
	}
}

// 0.5: what is told stays, whatever becomes of the argument.
func TestAnswersKeepNothing(t *testing.T) {
	for i, was := range trees() {
		n := sample.RoomyTree(was)
		leaves, moved := Leaves(n), Move(n, 0)
		found, _ := Find(n, nil)
		told := fmt.Sprint(leaves, moved, found)
		if spoil(n); fmt.Sprint(leaves, moved, found) != told {
			t.Errorf("tree %d: what was told has changed with it", i)
		}
	}
}

// holdApart fails where lists of a tree share memory: what is written behind one of them is seen in another one.
func holdApart(t *testing.T, what string, n api.Node) {
	t.Helper()
	was := fmt.Sprint(n)
	for _, part := range sample.NodesOf(&n) {
		_ = append(part.Kids, api.Node{Kind: "spoilt"})
	}
	if fmt.Sprint(n) != was {
		t.Errorf("%s: lists share memory", what)
	}
}

// 0.5: no two lists of one answer share memory, even if those of the argument do.
func TestListsShareNothing(t *testing.T) {
	kids := []api.Node{of("c", 0, 1), of("c", 1, 2, of("d", 1, 2))}
	n := of("a", 0, 4, of("b", 0, 2, kids...), of("b", 2, 4, kids...), of("b", 4, 4, kids[:1]...))
	found, _ := Find(n, nil)
	for i, told := range []api.Node{Move(n, 0), Move(n, 2), found} {
		holdApart(t, fmt.Sprint("answer ", i), told)
		told.Kids[0].Kids[0].Kind = "changed"
		told.Kids[0].Kids[1].Kids[0].Kind = "changed"
		if told.Kids[1].Kids[0].Kind != "c" || told.Kids[1].Kids[1].Kids[0].Kind != "d" || told.Kids[2].Kids[0].Kind != "c" || kids[0].Kind != "c" {
			t.Errorf("answer %d: memory is shared", i)
		}
	}
	leaves := Leaves(sample.RoomyTree(n))
	for i, leaf := range leaves {
		if leaf.Kids != nil {
			t.Errorf("leaf %d has a list", i)
		}
	}
}
