package gss

import (
	"math"
	"reflect"
	"testing"

	"bramble/api"
	"bramble/sample"
)

// P16.1: one node, or none.
func TestNew(t *testing.T) {
	for _, state := range []int{0, 1, 7, 4096, 65534, 65535} {
		want := api.Gss{Nodes: []api.Gnode{{State: state}}}
		if got := New(state); !reflect.DeepEqual(got, want) || !Fit(got) {
			t.Errorf("of %d: %v", state, got)
		}
	}
	for _, state := range []int{-1, -2, 65536, 65537, 1 << 32, math.MinInt, math.MaxInt} {
		if got := New(state); got.Nodes != nil || !Fit(got) {
			t.Errorf("of %d: %v", state, got)
		}
	}
}

// P16.1: which stacks are fit.
func TestFit(t *testing.T) {
	for _, c := range []struct {
		what, stack string
		want        bool
	}{
		{"no nodes", "", true},
		{"one node", "0@0", true},
		{"the greatest State", "65535@0", true},
		{"a State above", "65536@0", false},
		{"a State far above", "9223372036854775807@0", false},
		{"a State below", "-1@0", false},
		{"a State far below", "-9223372036854775808@0", false},
		{"the greatest At", "0@65535", true},
		{"an At above", "0@65536", false},
		{"an At far above", "0@9223372036854775807", false},
		{"an At below", "0@-1", false},
		{"an At far below", "0@-9223372036854775808", false},
		{"a State above in the last node", "0@0 1@1:0 65536@1", false},
		{"a State below in the last node", "0@0 -1@1:0", false},
		{"an At above in the last node", "0@0 1@1:0 1@65536", false},
		{"an At below in the first node", "0@-1 1@1:0", false},
		{"no place 0, no state 0", "5@3 9@3:0 2@7:1", true},
		{"by At", "0@0 0@1 0@2 0@3", true},
		{"by At, not by State", "9@0 5@1 1@2", true},
		{"not by At", "0@1 1@0", false},
		{"not by At, the last two", "0@0 0@2 0@1", false},
		{"by State at one place", "0@4 1@4 2@4 9@4", true},
		{"not by State at one place", "1@4 0@4", false},
		{"not by State at one place, the last two", "0@0 1@4 9@4 7@4", false},
		{"a node twice", "0@0 0@0", false},
		{"a node twice, with other links", "0@0 1@1 1@1:0", false},
		{"a node twice, one between them", "1@1 2@1 1@1", false},
		{"a link", "0@0 1@1:0", true},
		{"links", "0@0 1@1 2@1 3@2:0,1,2", true},
		{"links that are not all", "0@0 1@1 2@1 3@2:0,2", true},
		{"links out of order", "0@0 1@1 3@2:1,0", false},
		{"links out of order, the last two", "0@0 1@1 2@1 3@2:0,2,1", false},
		{"a link twice", "0@0 1@1:0,0", false},
		{"a link twice, the last two", "0@0 1@1 3@2:0,1,1", false},
		{"a link that is no node", "0@0 1@1:2", false},
		{"a link that is no node, behind others", "0@0 1@1:0,1,2", false},
		{"a link far above", "0@0 1@1:9223372036854775807", false},
		{"a link below 0", "0@0 1@1:-1", false},
		{"a link below 0, ahead of others", "0@0 1@1:-1,0", false},
		{"a link far below", "0@0 1@1:-9223372036854775808", false},
		{"a link of a node alone that is none", "0@0:1", false},
		{"a link to a later place", "0@0:1 1@1", false},
		{"a link to a later place, behind others", "0@0:0,1 1@1", false},
		{"a link to a place far later", "0@0 0@1:0,1,2 0@65535", false},
		{"a link to the node itself", "0@0:0", true},
		{"a link to the node itself, behind others", "0@0 1@1:0,1", true},
		{"a link to a later node at the place", "0@0:1 1@0", true},
		{"nodes that link to one another", "0@0:0,1 1@0:0,1", true},
		{"a fault in the first node's links alone", "0@0:1,0 1@0", false},
		{"a fault in a middle node's links alone", "0@0 1@0:1,0 2@0", false},
	} {
		g := sample.StackOf(c.stack)
		if got := Fit(g); got != c.want || fitByWords(g) != c.want {
			t.Errorf("%s: %v", c.what, got)
		}
	}
	if !Fit(api.Gss{Nodes: []api.Gnode{}}) || !Fit(api.Gss{Nodes: []api.Gnode{{Links: []int{}}}}) {
		t.Error("an empty list is none")
	}
}

// P16.1: just 4096 nodes, and one more.
func TestFitOfManyNodes(t *testing.T) {
	for _, each := range []int{1, 2, 64, 1000, 5000} {
		for nodes, want := range map[int]bool{4095: true, 4096: true, 4097: false, 5000: false} {
			if g := sample.StackOfMany(nodes, each, 1); Fit(g) != want {
				t.Errorf("%d nodes, %d at each place: %v", nodes, each, !want)
			}
		}
	}
	g := sample.StackOfMany(4096, 10, 7)
	for number := range g.Nodes {
		for link := range number {
			g.Nodes[number].Links = append(g.Nodes[number].Links, link)
		}
	}
	if !Fit(g) {
		t.Error("all links to nodes ahead: not fit")
	}
	last := &g.Nodes[4095].Links
	if *last = append(*last, 4095); !Fit(g) {
		t.Error("a link to the last node: not fit")
	}
	if *last = append(*last, 4096); Fit(g) {
		t.Error("a link behind the last node: fit")
	}
}

// faults is ways to spoil a stack at a node: false, if that can't be there.
func faults() map[string]func(g api.Gss, at int) bool {
	number := func(set func(node *api.Gnode)) func(api.Gss, int) bool {
		return func(g api.Gss, at int) bool { set(&g.Nodes[at]); return true }
	}
	links := func(least int, set func(l []int)) func(api.Gss, int) bool {
		return func(g api.Gss, at int) bool {
			if len(g.Nodes[at].Links) < least {
				return false
			}
			set(g.Nodes[at].Links)
			return true
		}
	}
	add := func(link func(g api.Gss) int) func(api.Gss, int) bool {
		return func(g api.Gss, at int) bool {
			g.Nodes[at].Links = append(g.Nodes[at].Links, link(g))
			return true
		}
	}
	return map[string]func(g api.Gss, at int) bool{
		"a State below 0":       number(func(node *api.Gnode) { node.State = -1 }),
		"a State above":         number(func(node *api.Gnode) { node.State = 65536 }),
		"an At below 0":         number(func(node *api.Gnode) { node.At = -1 }),
		"an At above":           number(func(node *api.Gnode) { node.At = 65536 }),
		"a link below 0":        links(1, func(l []int) { l[0] = -1 }),
		"a link behind the end": add(func(g api.Gss) int { return len(g.Nodes) }),
		"the last link twice":   links(2, func(l []int) { l[len(l)-2] = l[len(l)-1] }),
		"the first two changed": links(2, func(l []int) { l[0], l[1] = l[1], l[0] }),
		"a link back to 0": func(g api.Gss, at int) bool {
			return len(g.Nodes[at].Links) > 0 && add(func(api.Gss) int { return 0 })(g, at)
		},
		"a link to a later place": func(g api.Gss, at int) bool {
			later := len(g.Nodes) - 1
			return g.Nodes[later].At > g.Nodes[at].At && add(func(api.Gss) int { return later })(g, at)
		},
		"the node ahead again": func(g api.Gss, at int) bool {
			if at == 0 {
				return false
			}
			g.Nodes[at].State, g.Nodes[at].At = g.Nodes[at-1].State, g.Nodes[at-1].At
			return true
		},
		"a State of the node ahead at its place": func(g api.Gss, at int) bool {
			if at == 0 || g.Nodes[at-1].State == 0 {
				return false
			}
			g.Nodes[at].State, g.Nodes[at].At = g.Nodes[at-1].State-1, g.Nodes[at-1].At
			return true
		},
		"an earlier At than the node's ahead": func(g api.Gss, at int) bool {
			if at == 0 || g.Nodes[at-1].At == 0 {
				return false
			}
			g.Nodes[at].At = g.Nodes[at-1].At - 1
			return true
		},
	}
}

// P16.1: one fault at one node of a fit stack, whichever that is.
func TestFitOfOneFault(t *testing.T) {
	seed := sample.Seed(161)
	all := faults()
	seen := map[string]int{}
	for range 400 {
		was := sample.FitStack(&seed, 9, 5, 4)
		if !Fit(was) || !fitByWords(was) {
			t.Fatalf("%v is not fit", was)
		}
		for what, spoil := range all {
			for at := range was.Nodes {
				g := sample.RoomyStack(was)
				if !spoil(g, at) {
					continue
				}
				if seen[what]++; Fit(g) || fitByWords(g) {
					t.Fatalf("%s in node %d: %v is fit", what, at, g)
				}
			}
		}
	}
	for what := range all {
		if seen[what] < 100 {
			t.Errorf("%s: only %d", what, seen[what])
		}
	}
}

// P16.1: drawn stacks, and all small ones.
func TestDrawnFit(t *testing.T) {
	seed := sample.Seed(162)
	fit := 0
	for range 20000 {
		g := sample.AnyStack(&seed, 5)
		got := Fit(g)
		if got != fitByWords(g) {
			t.Fatalf("%v: %v", g, got)
		}
		if got {
			fit++
		}
	}
	if fit < 500 || fit > 19500 {
		t.Errorf("%d of them are fit", fit)
	}
	for g := range sample.Stacks(4, 2, 2) {
		if !Fit(g) {
			t.Fatalf("%v is not fit", g)
		}
	}
}

// P16.1: any two stacks, field by field.
func TestSame(t *testing.T) {
	stacks := []string{
		"", "0@0", "1@0", "0@1", "-1@0", "0@65536", "0@0:0", "0@0 0@0", "0@0 0@0 0@0",
		"0@0 1@1", "0@0 1@1:0", "0@0 1@1:1", "0@0 1@1:0,1", "0@0 1@1:1,0", "0@0 1@1:0,0", "0@0 1@1:-1", "0@0 1@2:0", "0@0 2@1:0", "0@0:0 1@1:0", "1@0 1@1:0", "1@1:0 0@0",
		"9223372036854775807@0", "-9223372036854775808@0", "0@9223372036854775807",
	}
	for i, a := range stacks {
		for k, b := range stacks {
			if got := Same(sample.StackOf(a), sample.StackOf(b)); got != (i == k) {
				t.Errorf("%q and %q: %v", a, b, got)
			}
		}
		if g := sample.StackOf(a); !Same(g, sample.RoomyStack(g)) || !Same(sample.RoomyStack(g), g) {
			t.Errorf("%q: an empty list is not none", a)
		}
	}
	if !Same(api.Gss{}, api.Gss{Nodes: []api.Gnode{}}) || !Same(api.Gss{Nodes: []api.Gnode{{}}}, api.Gss{Nodes: []api.Gnode{{Links: []int{}}}}) {
		t.Error("an empty list is not none")
	}
}

// P16.1: one number of one node, whichever that is.
func TestSameButOne(t *testing.T) {
	seed := sample.Seed(163)
	for range 300 {
		was := sample.AnyStack(&seed, 6)
		if !Same(was, sample.RoomyStack(was)) {
			t.Fatalf("%v is not the same", was)
		}
		for at := range was.Nodes {
			for what, change := range []func(node *api.Gnode){
				func(node *api.Gnode) { node.State++ },
				func(node *api.Gnode) { node.At-- },
				func(node *api.Gnode) { node.Links = append(node.Links, 0) },
				func(node *api.Gnode) { node.Links = append([]int{0}, node.Links...) },
			} {
				g := sample.RoomyStack(was)
				if change(&g.Nodes[at]); Same(g, was) || Same(was, g) {
					t.Fatalf("change %d of node %d: %v and %v are the same", what, at, was, g)
				}
			}
			for i := range was.Nodes[at].Links {
				g := sample.RoomyStack(was)
				if g.Nodes[at].Links[i]++; Same(g, was) || Same(was, g) {
					t.Fatalf("link %d of node %d: %v and %v are the same", i, at, was, g)
				}
			}
		}
	}
}
