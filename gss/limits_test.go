package gss

import (
	"math"
	"slices"
	"testing"

	"bramble/api"
	"bramble/sample"
)

// oddStacks is stacks with something that can not be: of most nothing is promised but that calls end.
func oddStacks() []api.Gss {
	far := []int{math.MinInt, math.MinInt32, -65536, -2, -1, 0, 1, 65535, 65536, 1 << 32, math.MaxInt - 1, math.MaxInt}
	all := []api.Gss{{}, {Nodes: []api.Gnode{}}, {Nodes: make([]api.Gnode, 3)}, {Nodes: make([]api.Gnode, 4097)}, {Nodes: make([]api.Gnode, 20000)}}
	var g api.Gss
	for _, n := range far {
		g.Nodes = append(g.Nodes, api.Gnode{State: n, At: n, Links: far}, api.Gnode{State: n, At: -n})
		all = append(all, sample.RoomyStack(g))
		slices.Reverse(g.Nodes)
		all = append(all, sample.RoomyStack(g))
	}
	round := sample.StackOf("0@0:1,1,1,0,0 0@0:0,0,1,1,9 0@0:2,1,0,-1")
	late := sample.StackOf("3@3:1,2 2@2:0,2 1@1:1,0")
	wide := api.Gss{Nodes: make([]api.Gnode, 2)}
	wide.Nodes[1].Links = make([]int, 100000)
	return append(all, round, late, wide, sample.StackOfMany(6000, 3, 1))
}

// 0.1: whatever a call is given, it ends.
func TestOdd(t *testing.T) {
	numbers := []int{math.MinInt, -1, 0, 1, 2, 64, 65, 4096, 65535, 65536, math.MaxInt}
	stacks := oddStacks()
	seed := sample.Seed(170)
	for range 50 {
		stacks = append(stacks, sample.AnyStack(&seed, 5))
	}
	for _, g := range stacks {
		for _, n := range numbers {
			New(n)
			Top(g, n)
			for _, m := range numbers {
				Find(g, n, m)
				Back(g, n, m)
				if paths, err := Paths(g, n, m); len(paths) > 4000 || err != api.OK && paths != nil {
					t.Errorf("%d rows, %v", len(paths), err)
				}
			}
		}
		for _, from := range []int{-1, 0, 1, 5, math.MaxInt} {
			for _, state := range []int{-1, 0, 3, 65536} {
				for _, at := range []int{math.MinInt, 0, 2, 65535, math.MaxInt} {
					Push(g, from, state, at)
				}
			}
		}
		Fit(g)
		for _, other := range stacks {
			Merge(g, other)
			if Same(g, other) != Same(other, g) {
				t.Error("two stacks are the same, and not the other way round")
			}
		}
	}
}

// 0.3: beside an error, and where there is none, nothing is told.
func TestNothing(t *testing.T) {
	g := fan(4001)
	if paths, err := Paths(g, 4001, 1); paths != nil || err != api.ErrMany {
		t.Errorf("%d rows, %v", len(paths), err)
	}
	for _, got := range [][]int{Top(g, 2), Back(g, 0, 1), Back(g, -1, 0), Back(g, 0, 65), Top(api.Gss{}, 0)} {
		if got != nil {
			t.Errorf("%v", got)
		}
	}
	if made, number, fresh := Push(api.Gss{Nodes: []api.Gnode{}}, 0, 0, 0); len(made.Nodes) != 0 || number != -1 || fresh {
		t.Errorf("%v, %d, %v", made, number, fresh)
	}
	if made := Merge(api.Gss{Nodes: []api.Gnode{}}, api.Gss{}); made.Nodes != nil {
		t.Errorf("%v", made)
	}
}

// A stack of 4096 nodes, each with links to all: 2^24 links.
func TestGreatest(t *testing.T) {
	g := sample.StackOfMany(4096, 4096, 16)
	all := make([]int, 4096)
	for i := range all {
		all[i] = i
	}
	for number := range g.Nodes {
		g.Nodes[number].Links = all
	}
	if !Fit(g) || !Same(g, g) || !slices.Equal(Back(g, 7, 2), all) {
		t.Error("not fit, or not all are behind a node")
	}
	if paths, err := Paths(g, 7, 64); paths != nil || err != api.ErrMany {
		t.Errorf("%d rows, %v", len(paths), err)
	}
	if made, number, fresh := Push(g, 9, 16, 0); number != 1 || fresh || !Same(made, g) {
		t.Errorf("%d, %v", number, fresh)
	}
	if !Same(Merge(g, g), g) {
		t.Error("merged with itself it is another one")
	}
}
