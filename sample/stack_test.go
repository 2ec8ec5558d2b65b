package sample

import (
	"fmt"
	"reflect"
	"testing"

	"bramble/api"
)

func TestStackOf(t *testing.T) {
	want := api.Gss{Nodes: []api.Gnode{{}, {State: 7, At: 1, Links: []int{0}}, {State: -3, At: 20, Links: []int{0, -1, 1}}, {State: -9, At: 4, Links: []int{-9}}, {State: 5, At: -9}}}
	if got := StackOf(" 0@0  7@1:0 -3@20:0,-1,1 z@4: 5 "); !reflect.DeepEqual(got, want) {
		t.Errorf("%v, not %v", got, want)
	}
	if got := StackOf(""); got.Nodes != nil {
		t.Errorf("%v", got)
	}
}

func TestStackOfMany(t *testing.T) {
	for _, c := range []struct {
		nodes, each, step int
		want              string
	}{
		{0, 1, 1, ""},
		{1, 5, 3, "0@0"},
		{5, 2, 7, "0@0 7@0 0@1 7@1 0@2"},
		{3, 3, 1, "0@0 1@0 2@0"},
	} {
		if got := StackOfMany(c.nodes, c.each, c.step); !reflect.DeepEqual(got, StackOf(c.want)) {
			t.Errorf("%v, not %s", got, c.want)
		}
	}
}

// fitStack tells whether a stack is fit.
func fitStack(g api.Gss) bool {
	for i, node := range g.Nodes {
		if node.State < 0 || node.At < 0 || i > 0 && (g.Nodes[i-1].At > node.At || g.Nodes[i-1].At == node.At && g.Nodes[i-1].State >= node.State) {
			return false
		}
		for k, link := range node.Links {
			if link < 0 || link >= len(g.Nodes) || g.Nodes[link].At > node.At || k > 0 && node.Links[k-1] >= link {
				return false
			}
		}
	}
	return true
}

func TestStacks(t *testing.T) {
	for _, c := range []struct{ nodes, states, ats, want int }{
		{0, 3, 3, 1},
		{1, 2, 2, 1 + 4*2},
		{2, 2, 2, 1 + 4*2 + 2*16 + 4*8},
		{3, 3, 1, 1 + 3*2 + 3*16 + 512},
		{4, 2, 2, 1 + 4*2 + 2*16 + 4*8 + 4*128 + 4096},
	} {
		met := map[string]int{}
		for g := range Stacks(c.nodes, c.states, c.ats) {
			if len(g.Nodes) > c.nodes || !fitStack(g) {
				t.Fatalf("%v", g)
			}
			met[fmt.Sprint(g)]++
			for i, node := range g.Nodes {
				clear(node.Links)
				g.Nodes[i] = api.Gnode{State: 9}
			}
		}
		if len(met) != c.want {
			t.Errorf("%v: %d stacks", c, len(met))
		}
	}
	for range Stacks(2, 2, 2) {
		break
	}
}

func TestFitStack(t *testing.T) {
	a, b := Seed(5), Seed(5)
	many, loops, forth, links := make([]int, 7), 0, 0, 0
	for range 500 {
		g := FitStack(&a, 6, 4, 3)
		if !reflect.DeepEqual(g, FitStack(&b, 6, 4, 3)) {
			t.Fatal("a seed tells other stacks")
		}
		if !fitStack(g) {
			t.Fatalf("%v", g)
		}
		many[len(g.Nodes)]++
		for number, node := range g.Nodes {
			for _, link := range node.Links {
				links++
				if link == number {
					loops++
				}
				if link > number {
					forth++
				}
			}
		}
	}
	for _, n := range append(many, loops, forth, links-loops-forth) {
		if n == 0 {
			t.Fatalf("so many nodes so often: %v; %d links, %d to the node itself, %d to later ones", many, links, loops, forth)
		}
	}
}

func TestAnyStack(t *testing.T) {
	a, b := Seed(5), Seed(5)
	many, fit, low, none := make([]int, 5), 0, 0, 0
	for range 500 {
		g := AnyStack(&a, 4)
		if !reflect.DeepEqual(g, AnyStack(&b, 4)) {
			t.Fatal("a seed tells other stacks")
		}
		many[len(g.Nodes)]++
		if fitStack(g) {
			fit++
		}
		for _, node := range g.Nodes {
			if node.State < 0 {
				low++
			}
			for _, link := range node.Links {
				if link < 0 || link >= len(g.Nodes) {
					none++
				}
			}
		}
	}
	for _, n := range append(many, fit, 500-fit, low, none) {
		if n == 0 {
			t.Fatalf("so many nodes so often: %v; %d fit ones; %d States below 0; %d links to no node", many, fit, low, none)
		}
	}
}

func TestRoomyStack(t *testing.T) {
	made := func() api.Gss {
		return api.Gss{Nodes: []api.Gnode{{State: 3, At: 1, Links: []int{}}, {State: 4, At: 2, Links: []int{0, 1}}}}
	}
	g := made()
	roomy := RoomyStack(g)
	if !StackRoomStays(roomy) || !reflect.DeepEqual(g, roomy) {
		t.Fatalf("%v", roomy)
	}
	for i, grow := range []func(api.Gss){
		func(g api.Gss) { _ = append(g.Nodes, api.Gnode{State: 1}) },
		func(g api.Gss) { _ = append(g.Nodes, api.Gnode{At: 1}) },
		func(g api.Gss) { _ = append(g.Nodes, api.Gnode{Links: []int{}}) },
		func(g api.Gss) { _ = append(g.Nodes[0].Links, 7) },
		func(g api.Gss) { _ = append(g.Nodes[1].Links, 0, 7) },
	} {
		h := RoomyStack(g)
		if grow(h); StackRoomStays(h) {
			t.Errorf("growth %d is not seen", i)
		}
	}
	roomy.Nodes[1].Links[0], roomy.Nodes[0].State = 9, 9
	if !reflect.DeepEqual(g, made()) {
		t.Error("memory is shared")
	}
}
