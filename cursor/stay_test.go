package cursor

import (
	"fmt"
	"slices"
	"testing"

	"bramble/api"
	"bramble/node"
	"bramble/sample"
)

// roomyPath is a path in memory of its own, with room behind it, in which 77 stands.
func roomyPath(path []int) []int {
	return append(slices.Clone(path), 77, 77, 77)[:len(path)]
}

// pathStays tells whether a path is as it was, and so what lies behind it.
func pathStays(path, was []int) bool {
	return slices.Equal(path, was) && slices.Equal(path[:len(path)+3][len(path):], []int{77, 77, 77})
}

// ask is all paths that are told of a tree and a path.
func ask(n api.Node, path []int) [][]int {
	told := All(n)
	for _, got := range moves(n, path) {
		told = append(told, got.path)
	}
	for _, name := range []string{"", "f", "g"} {
		got, _ := Field(n, path, name)
		told = append(told, got)
	}
	Order(path, []int{0, 1})
	Order([]int{0, 1}, path)
	return told
}

// spoil writes over a path, and behind it.
func spoil(path []int) {
	path = path[:cap(path)]
	for i := range path {
		path[i] = 99
	}
}

// question is a tree and a path.
type question struct {
	n    api.Node
	path []int
}

// questions is some: each path of drawn trees, and such as lead to no node.
func questions() []question {
	seed := sample.Seed(2105)
	trees := []api.Node{treeOf("r"), treeOf("r(f:a(c d(e g:f) h) f:b)"), row(12), side(12), comb(3)}
	for range 25 {
		trees = append(trees, sample.AnyTree(&seed, 20), sample.FitTree(&seed, 0, 9, 4))
	}
	var all []question
	for _, n := range trees {
		for _, path := range allByWords(n) {
			all = append(all, question{n, path}, question{n, bent(&seed, path)})
		}
	}
	return all
}

// 0.5: what a call is given is as it was, and so is what lies behind it.
func TestArgumentsStay(t *testing.T) {
	for _, q := range questions() {
		n, path := sample.RoomyTree(q.n), roomyPath(q.path)
		ask(n, path)
		if !node.Same(n, q.n) || !sample.TreeRoomStays(n) || !pathStays(path, q.path) {
			t.Errorf("%v in %s: what was given has changed: %v", q.path, node.Print(q.n), path)
		}
	}
}

// P21.3, 0.5: what is told lies in memory of its own: what is written over it is seen in no argument and in no other answer.
func TestAnswersShareNothing(t *testing.T) {
	for _, q := range questions() {
		n, path := sample.RoomyTree(q.n), roomyPath(q.path)
		told := ask(n, path)
		before := fmt.Sprint(told)
		for _, l := range told {
			spoil(l)
		}
		if !node.Same(n, q.n) || !sample.TreeRoomStays(n) || !pathStays(path, q.path) {
			t.Errorf("%v in %s: what was given has changed: %v", q.path, node.Print(q.n), path)
		}
		if fmt.Sprint(ask(n, path)) != before {
			t.Errorf("%v in %s: what is told has changed", q.path, node.Print(q.n))
		}
	}
}

// P21.3, 0.5: what is told stays, whatever becomes of the arguments.
func TestAnswersKeepNothing(t *testing.T) {
	for _, q := range questions() {
		n, path := sample.RoomyTree(q.n), roomyPath(q.path)
		told := ask(n, path)
		before := fmt.Sprint(told)
		spoil(path)
		for _, part := range sample.NodesOf(&n) {
			part.Field = "spoilt"
			clear(part.Kids[:cap(part.Kids)])
		}
		if fmt.Sprint(told) != before {
			t.Errorf("%v in %s: what was told has changed", q.path, node.Print(q.n))
		}
	}
}

// holdApart fails where one path, written over or behind, is seen in another one.
func holdApart(t *testing.T, told [][]int) {
	t.Helper()
	for i, path := range told {
		was := slices.Clone(path)
		rest := fmt.Sprint(told[:i], told[i+1:])
		spoil(path)
		_ = append(path, 55)
		if fmt.Sprint(told[:i], told[i+1:]) != rest {
			t.Fatalf("path %d, %v, shares memory with another one", i, was)
		}
	}
}

// P21.3: no two paths that are told share memory: each is changed alone, and no other one is.
func TestPathsShareNothing(t *testing.T) {
	for _, q := range questions() {
		holdApart(t, ask(q.n, q.path))
		holdApart(t, All(q.n))
	}
	holdApart(t, All(row(120)))
	holdApart(t, All(comb(40)))
}
