package node

import (
	"math"
	"strings"
	"testing"

	"bramble/api"
	"bramble/sample"
)

// P14.1: what a node must be, at just its edges.
func TestFit(t *testing.T) {
	kind := func(bytes int) api.Node { return of(strings.Repeat("k", bytes), 0, 4) }
	field := func(bytes int) api.Node { return in(strings.Repeat("f", bytes), of("a", 0, 4)) }
	for _, c := range []struct {
		what string
		n    api.Node
		size int
		want bool
	}{
		{"just its size", of("a", 0, 4), 4, true},
		{"a greater size", of("a", 0, 4), 5, true},
		{"a greatest size", of("a", 0, 4), math.MaxInt, true},
		{"To above the size", of("a", 0, 4), 3, false},
		{"nothing of nothing", of("a", 0, 0), 0, true},
		{"To just above nothing", of("a", 0, 1), 0, false},
		{"a size below 0", of("a", 0, 0), -1, false},
		{"a size below 0, and To", of("a", -2, -2), -1, false},
		{"the least size", of("a", 0, 0), math.MinInt, false},
		{"From below 0", of("a", -1, 4), 4, false},
		{"From far below 0", of("a", math.MinInt, 4), 4, false},
		{"From just To", of("a", 4, 4), 4, true},
		{"From ahead of To", of("a", 3, 4), 4, true},
		{"To below From", of("a", 4, 3), 4, false},
		{"To below From, both at the edges", of("a", 4, 0), 4, false},
		{"From behind the size", of("a", 5, 5), 4, false},
		{"a Kind of no bytes", kind(0), 4, false},
		{"a Kind of 1", kind(1), 4, true},
		{"a Kind of 80", kind(80), 4, true},
		{"a Kind of 81", kind(81), 4, false},
		{"a Kind of other bytes", of("\x00\xff", 0, 4), 4, true},
		{"40 letters of 2 bytes", of(strings.Repeat("é", 40), 0, 4), 4, true},
		{"41 letters of 2 bytes", of(strings.Repeat("é", 41), 0, 4), 4, false},
		{"no Field", field(0), 4, true},
		{"a Field of 32", field(32), 4, true},
		{"a Field of 33", field(33), 4, false},
		{"a Field of 16 letters of 2 bytes", in(strings.Repeat("é", 16), of("a", 0, 4)), 4, true},
		{"a Field of 17 letters of 2 bytes", in(strings.Repeat("é", 17), of("a", 0, 4)), 4, false},
		{"not Named", bare(of("a", 0, 4)), 4, true},
		{"a Bad below BadNone", bad(-1, of("a", 0, 4)), 4, false},
		{"BadError", bad(api.BadError, of("a", 0, 4)), 4, true},
		{"BadError of nothing", bad(api.BadError, of("a", 4, 4)), 4, true},
		{"BadError with Kids", bad(api.BadError, of("a", 0, 4, of("b", 0, 4))), 4, true},
		{"BadMiss of nothing", bad(api.BadMiss, of("a", 4, 4)), 4, true},
		{"BadMiss of a byte", bad(api.BadMiss, of("a", 3, 4)), 4, false},
		{"BadMiss with Kids", bad(api.BadMiss, of("a", 4, 4, of("b", 4, 4))), 4, false},
		{"BadMiss with Kids and a byte", bad(api.BadMiss, of("a", 3, 4, of("b", 3, 4))), 4, false},
		{"a Bad above BadMiss", bad(api.BadMiss+1, of("a", 4, 4)), 4, false},
		{"the greatest Bad", bad(math.MaxInt, of("a", 4, 4)), 4, false},
		{"the least Bad", bad(math.MinInt, of("a", 4, 4)), 4, false},
	} {
		if got := Fit(c.n, c.size); got != c.want || fitByWords(c.n, c.size) != c.want {
			t.Errorf("%s: %v", c.what, got)
		}
		if c.n.From < 1 || c.n.To > 4 {
			continue
		}
		if got := Fit(of("r", 1, 4, of("s", 1, 4, c.n)), c.size); got != c.want {
			t.Errorf("%s, within others: %v", c.what, got)
		}
	}
}

// P14.1: where Kids may lie in a node from 2 to 6.
func TestFitOfKids(t *testing.T) {
	for _, c := range []struct {
		what string
		kids []api.Node
		want bool
	}{
		{"none", nil, true},
		{"a list of none", []api.Node{}, true},
		{"one of all", []api.Node{of("a", 2, 6)}, true},
		{"one that begins ahead of it", []api.Node{of("a", 1, 6)}, false},
		{"an empty one ahead of it", []api.Node{of("a", 1, 1)}, false},
		{"one that ends behind it", []api.Node{of("a", 2, 7)}, false},
		{"an empty one behind it", []api.Node{of("a", 7, 7)}, false},
		{"an empty one at its beginning", []api.Node{of("a", 2, 2)}, true},
		{"an empty one at its end", []api.Node{of("a", 6, 6)}, true},
		{"two side by side", []api.Node{of("a", 2, 4), of("a", 4, 6)}, true},
		{"two with a gap", []api.Node{of("a", 3, 4), of("a", 5, 5)}, true},
		{"one that begins ahead of the end of the one ahead", []api.Node{of("a", 2, 4), of("a", 3, 6)}, false},
		{"one within the one ahead", []api.Node{of("a", 2, 6), of("a", 3, 4)}, false},
		{"an empty one within the one ahead", []api.Node{of("a", 2, 6), of("a", 4, 4)}, false},
		{"two in the other order", []api.Node{of("a", 4, 6), of("a", 2, 4)}, false},
		{"an empty one ahead at the same place", []api.Node{of("a", 4, 4), of("a", 4, 6)}, true},
		{"an empty one behind at the same place", []api.Node{of("a", 2, 4), of("a", 4, 4), of("a", 4, 6)}, true},
		{"two empty ones at one place", []api.Node{of("a", 4, 4), of("a", 4, 4)}, true},
		{"the same two at the end", []api.Node{of("a", 2, 6), of("a", 6, 6), of("a", 6, 6)}, true},
		{"the second of three behind it", []api.Node{of("a", 2, 3), of("a", 3, 7), of("a", 7, 7)}, false},
		{"one that goes back to where the next begins", []api.Node{of("a", 4, 3), of("a", 3, 6)}, false},
		{"one that goes back alone", []api.Node{of("a", 6, 2)}, false},
		{"the last of three is not as it must be", []api.Node{of("a", 2, 3), of("a", 3, 4), of("", 4, 6)}, false},
		{"the first of three is not", []api.Node{bad(3, of("a", 2, 3)), of("a", 3, 4), of("a", 4, 6)}, false},
		{"a missing one between", []api.Node{of("a", 2, 4), bad(api.BadMiss, of("m", 4, 4)), of("a", 4, 6)}, true},
		{"kids of kids beyond these", []api.Node{of("a", 2, 4, of("b", 2, 5)), of("a", 4, 6)}, false},
		{"kids of kids ahead of these", []api.Node{of("a", 2, 4), of("a", 4, 6, of("b", 3, 6))}, false},
		{"kids of kids in order", []api.Node{of("a", 2, 4, of("b", 2, 3), of("b", 3, 4)), of("a", 4, 6, of("b", 5, 5))}, true},
	} {
		n := of("r", 2, 6, c.kids...)
		if got := Fit(n, 9); got != c.want || fitByWords(n, 9) != c.want {
			t.Errorf("%s: %v", c.what, got)
		}
		if got := Fit(of("s", 0, 9, of("a", 0, 1), n), 9); got != c.want {
			t.Errorf("%s, within another: %v", c.what, got)
		}
	}
}

// faults is what can be wrong with one node alone.
func faults() []func(n *api.Node) {
	return []func(n *api.Node){
		func(n *api.Node) { n.From = -1 },
		func(n *api.Node) { n.To = n.From - 1 },
		func(n *api.Node) { n.To = 1 << 40 },
		func(n *api.Node) { n.Kind = "" },
		func(n *api.Node) { n.Kind = strings.Repeat("k", 81) },
		func(n *api.Node) { n.Field = strings.Repeat("f", 33) },
		func(n *api.Node) { n.Bad = -1 },
		func(n *api.Node) { n.Bad = 3 },
		func(n *api.Node) { n.Bad, n.From, n.To = api.BadMiss, 3, 4 },
	}
}

// P14.1: one fault in one node of a tree, whichever that is.
func TestFitOfOneFault(t *testing.T) {
	trees := []api.Node{of("r", 0, 4), row(32), side(9), of("r", 0, 9, of("a", 1, 5, of("b", 1, 2), of("b", 3, 5, of("c", 3, 4))), of("a", 5, 9, of("b", 9, 9)))}
	for i, was := range trees {
		if !Fit(was, 9) {
			t.Fatalf("tree %d is not fit", i)
		}
		for at := range sample.NodesOf(&was) {
			for what, spoil := range faults() {
				n := sample.RoomyTree(was)
				if spoil(sample.NodesOf(&n)[at]); Fit(n, 9) || fitByWords(n, 9) {
					t.Errorf("tree %d, fault %d at node %d: fit", i, what, at)
				}
			}
		}
	}
}

// P14.1: just 32 nodes within one another, and more, wherever the row lies.
func TestFitOfDeep(t *testing.T) {
	for _, many := range []int{1, 2, 31, 32, 33, 34, 64, 1000, 5000} {
		want := many <= 32
		if Fit(row(many), 4) != want {
			t.Errorf("%d nodes within one another: %v", many, !want)
		}
		if many < 2 {
			continue
		}
		first, last := of("r", 0, 9, row(many-1), of("b", 5, 9)), of("r", 0, 9, of("b", 0, 0), row(many-1))
		if Fit(first, 9) != want || Fit(last, 9) != want {
			t.Errorf("%d, beside another one: %v, %v", many, Fit(first, 9), Fit(last, 9))
		}
	}
}

// P14.1: just 5000 nodes, and more, however they lie.
func TestFitOfMany(t *testing.T) {
	for _, many := range []int{4998, 4999, 5000, 5001, 5002, 65536} {
		want := many <= 5000
		flat := side(many - 1)
		if Fit(flat, many) != want {
			t.Errorf("%d nodes side by side: %v", many, !want)
		}
		tower := of("r", 0, 9)
		for left := many - 1; left > 0; left -= 31 {
			tower.Kids = append(tower.Kids, Move(row(min(left, 31)), 4*len(tower.Kids)))
			tower.To = 4 * len(tower.Kids)
		}
		if all, deep := Count(tower); all != many || deep != 32 || Fit(tower, tower.To) != want {
			t.Errorf("%d nodes, %d within one another: %v", all, deep, !want)
		}
		if flat.Kids[many-2].Bad = 3; Fit(flat, many) {
			t.Errorf("%d nodes, the last one not as it must be: fit", many)
		}
	}
}
