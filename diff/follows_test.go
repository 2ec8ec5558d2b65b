package diff

import (
	"testing"

	"bramble/api"
	"bramble/node"
	"bramble/sample"
	"bramble/span"
)

// holdForm fails where P22.5 does not hold: what is told is not of the normal form, or has another byte than those that have changed.
func holdForm(t *testing.T, a, b api.Node, l []api.Edit, size int) {
	t.Helper()
	told := holdChanged(t, a, b, l, size)
	if !span.Fit(told) {
		t.Errorf("%v is not of the normal form", told)
	}
	for at := -1; at < size+2; at++ {
		_, in := span.Inner(told, at)
		if want := at >= 0 && at < size && inChanged(a, b, l, at); in != want {
			t.Errorf("%v, %v, %v: byte %d is in %v: %v", a, b, l, at, told, in)
		}
	}
}

// P22.3, P22.4, P22.5: every two fit trees of at most 3 nodes of two Kinds over at most 2 bytes, without edits.
func TestEveryTwoTrees(t *testing.T) {
	var all []api.Node
	for nodes := range 4 {
		all = append(all, sample.FitTrees(nodes, 0, 2, "a", "b")...)
	}
	for _, a := range all {
		for _, b := range all {
			holdAlike(t, a, b, 3)
			if told := holdChanged(t, a, b, nil, 3); (told == nil) != alikeByWords(a, b, 3) {
				t.Errorf("%v, %v: %v", a, b, told)
			}
		}
	}
}

// P22.3, P22.5: every two fit trees of at most 2 nodes over at most 3 bytes, with every edit of some.
func TestEveryEdit(t *testing.T) {
	var all []api.Node
	for nodes := range 3 {
		all = append(all, sample.FitTrees(nodes, 0, 3, "a")...)
	}
	some := edits([]int{0, 1, 2, 3}, []int{0, 1, 2}, "", "x", "xy")
	for _, a := range all {
		for _, b := range all {
			for _, e := range some {
				holdForm(t, a, b, []api.Edit{e}, 4)
			}
		}
	}
}

// bent is a tree with another Kind, or another place, somewhere: it is fit, or else left as it was.
func bent(seed *sample.Seed, n api.Node) api.Node {
	other := node.Move(n, 0)
	parts := sample.NodesOf(&other)
	part := parts[seed.Below(len(parts))]
	switch seed.Below(4) {
	case 0:
		part.Kind = "k"
	case 1:
		part.From += seed.Below(3) - 1
	case 2:
		part.To += seed.Below(3) - 1
	case 3:
		part.Kids = nil
	}
	if !node.Fit(other, api.MaxText) {
		return n
	}
	return other
}

// P22.3, P22.4, P22.5: drawn trees, and such as are a little other or have moved, with drawn edits.
func TestDrawn(t *testing.T) {
	seed := sample.Seed(2203)
	nothing, alike, ranges := 0, 0, make([]int, 4)
	for range 1500 {
		size := seed.Below(25)
		l, was := drawnEdits(&seed, size, seed.Below(4))
		a := sample.FitTree(&seed, 0, size, 5)
		for _, b := range []api.Node{a, bent(&seed, a), sample.FitTree(&seed, 0, len(was), 5), sample.FitTree(&seed, 0, len(was), 2)} {
			for _, edits := range [][]api.Edit{l, nil} {
				holdForm(t, a, b, edits, len(was)+1)
				many := len(Changed(a, b, edits, len(was)+1))
				ranges[min(many, 3)]++
			}
			holdAlike(t, a, b, size+2)
			if Alike(a, b, size+2) {
				alike++
			}
			if Changed(a, b, nil, size) == nil {
				nothing++
			}
		}
	}
	for i, many := range append(ranges, alike, nothing) {
		if many < 100 {
			t.Errorf("%d: %d times alone", i, many)
		}
	}
}

// P22.6: without edits, of one tree twice, nothing has changed.
func TestOneTreeTwice(t *testing.T) {
	seed := sample.Seed(2206)
	for i := range 400 {
		n := sample.FitTree(&seed, seed.Below(3), 3+seed.Below(40), 6)
		for _, size := range []int{-1, 0, 1, n.From, n.To - 1, n.To, n.To + 1, 60} {
			if got := Changed(n, node.Move(n, 0), nil, size); got != nil || !Alike(n, n, size) {
				t.Errorf("tree %d, %d bytes: %v", i, size, got)
			}
		}
		if got := Changed(n, n, []api.Edit{}, api.MaxText); got != nil {
			t.Errorf("tree %d: %v", i, got)
		}
	}
	for nodes := range 5 {
		for _, n := range sample.FitTrees(nodes, 0, 3, "a") {
			if got := Changed(n, n, nil, 5); got != nil || !Alike(n, n, 5) {
				t.Errorf("%v: %v", n, got)
			}
		}
	}
}

// P22.6: of a tree that has been moved by an edit ahead of all of it, what has changed is what was put in.
func TestMovedTree(t *testing.T) {
	seed := sample.Seed(2207)
	texts := []string{"", "x", "xy", "xyz"}
	for range 2000 {
		e := api.Edit{At: seed.Below(4), Old: seed.Below(4), Text: texts[seed.Below(4)]}
		from := e.At + e.Old + seed.Below(3)
		a := sample.FitTree(&seed, from, from+seed.Below(20), 5)
		b := node.Move(a, len(e.Text)-e.Old)
		put := span.Norm([]api.Range{{From: e.At, To: e.At + len(e.Text)}})
		size := b.To + seed.Below(3)
		if got := Changed(a, b, []api.Edit{e}, size); rangeText(got) != rangeText(span.Meet(put, []api.Range{{To: max(size, 0)}})) {
			t.Errorf("%v, moved by %v: %v", a, e, got)
		}
		holdForm(t, a, b, []api.Edit{e}, size)
	}
}

// P22.6: so it is within a node that covers both, but for its ends.
func TestMovedWithin(t *testing.T) {
	seed := sample.Seed(2208)
	for range 2000 {
		kid := sample.FitTree(&seed, 7, 7+seed.Below(10), 4)
		a := api.Node{Kind: "r", From: seed.Below(3), To: kid.To + 1, Kids: []api.Node{kid}}
		e := api.Edit{At: a.From + 1 + seed.Below(3), Old: seed.Below(3), Text: []string{"", "x", "xyz"}[seed.Below(3)]}
		by := len(e.Text) - e.Old
		b := api.Node{Kind: "r", From: a.From, To: a.To + by, Kids: []api.Node{node.Move(kid, by)}}
		put := span.Norm([]api.Range{{From: e.At, To: e.At + len(e.Text)}})
		if got := Changed(a, b, []api.Edit{e}, b.To+2); rangeText(got) != rangeText(put) {
			t.Errorf("%v, %v: %v", a, e, got)
		}
		again := b
		again.Kids = []api.Node{kid}
		if kid.To <= again.To {
			holdForm(t, a, again, []api.Edit{e}, b.To+2)
		}
	}
}
