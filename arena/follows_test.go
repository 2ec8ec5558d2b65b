package arena

import (
	"testing"

	"bramble/api"
	"bramble/sample"
)

// shifted is a tree, all its places so much later.
func shifted(n api.Node, by int) api.Node {
	n.From += by
	n.To += by
	var kids []api.Node
	for _, kid := range n.Kids {
		kids = append(kids, shifted(kid, by))
	}
	n.Kids = kids
	return n
}

// smallTrees is every tree of at most so many nodes, each of them one of four.
func smallTrees(most int) []api.Node {
	each := []api.Node{{Kind: "a"}, {Kind: "a", To: 1}, {Kind: "b"}, {Kind: "a", From: 1, To: 1}}
	var all []api.Node
	for nodes := 1; nodes <= most; nodes++ {
		ways := 1
		for range nodes {
			ways *= len(each)
		}
		for way := range ways {
			for _, n := range sample.Shapes(nodes) {
				rest := way
				for _, part := range sample.NodesOf(&n) {
					kids := part.Kids
					*part = each[rest%len(each)]
					part.Kids = kids
					rest /= len(each)
				}
				all = append(all, n)
			}
		}
	}
	return all
}

// P20.2 to P20.8: every tree of at most 4 nodes alone, twice, moved, and without its Field.
func TestEverySmallTree(t *testing.T) {
	for i, n := range smallTrees(4) {
		a, _ := holdAdd(t, New(), n)
		holdTold(t, a)
		b, _ := holdAdd(t, a, n)
		holdTold(t, b)
		field := shifted(n, 0)
		field.Field = "f"
		c, _ := holdAdd(t, b, shifted(field, i-700))
		holdTold(t, c)
		if Live(b) != Live(a) || b.Roots[1] != b.Roots[0] || Shared(b, 0, 1) != Live(a) {
			t.Fatalf("%v twice: %v", n, b)
		}
		if Live(c) != Live(a)+1 || Shared(c, 0, 2) != Live(a)-1 {
			t.Fatalf("%v with a Field, moved: %v", n, c)
		}
		for _, h := range []int{i % 3, (i + 1) % 3, (i + 2) % 3} {
			c, _ = holdDrop(t, c, h)
			holdTold(t, c)
		}
		if Live(c) != 0 {
			t.Fatalf("%v: %v", n, c)
		}
	}
}

// P20.2 to P20.8: every two trees of at most 3 nodes, then one of them released, and the other one added again.
func TestEveryTwoTrees(t *testing.T) {
	trees := smallTrees(3)
	for i, n := range trees {
		a := added(t, New(), n)
		for k, m := range trees {
			b, _ := holdAdd(t, a, m)
			c, _ := holdDrop(t, b, (i+k)%2)
			d, _ := holdAdd(t, c, n)
			if !Fit(b) || !Fit(c) || !Fit(d) {
				t.Fatalf("%v, %v: not fit", n, m)
			}
			if (i+k)%5 == 0 {
				holdTold(t, b)
				holdTold(t, d)
			}
		}
	}
}

// desk is an arena, and of each handle the tree that was added; none, if it is released.
type desk struct {
	api.Arena
	trees []*api.Node
}

// hold holds what Read tells of each handle against what was added (P20.6), and what is live against what is kept (P20.7).
func (d desk) hold(t *testing.T) {
	t.Helper()
	if !Fit(d.Arena) {
		t.Fatalf("%v is not fit", d.Arena)
	}
	kept := 0
	for h, tree := range d.trees {
		n, err := Read(d.Arena, h)
		if tree == nil && err != api.ErrNone || tree != nil && (err != api.OK || !isTree(n, *tree)) {
			t.Fatalf("handle %d of %v: %v, %v", h, d.Arena, n, err)
		}
		if tree != nil {
			kept++
		}
	}
	if (Live(d.Arena) == 0) != (kept == 0) {
		t.Fatalf("%d are live, of %d handles", Live(d.Arena), kept)
	}
}

// add is a desk with one tree more, if there is room.
func (d desk) add(t *testing.T, n api.Node) desk {
	t.Helper()
	made, err := holdAdd(t, d.Arena, n)
	if err != api.OK {
		return d
	}
	return desk{made, append(d.trees[:len(d.trees):len(d.trees)], &n)}
}

// drop is a desk without a handle, if it is one.
func (d desk) drop(t *testing.T, h int) desk {
	t.Helper()
	made, err := holdDrop(t, d.Arena, h)
	if err != api.OK {
		return d
	}
	trees := append([]*api.Node(nil), d.trees...)
	trees[h] = nil
	return desk{made, trees}
}

// P20.2, P20.3, P20.6, P20.7: every row of at most 5 Adds and Drops, of some trees that share much.
func TestEveryRow(t *testing.T) {
	trees := []api.Node{sample.TreeOf("a(b c)"), sample.TreeOf("b"), sample.TreeOf("a@1,1(c@1,1(b@1,1) c@1,1)"), sample.TreeOf("d(a(b c) a(b c))"), sample.TreeOf("a")}
	rows := 0
	var walk func(d desk, left int)
	walk = func(d desk, left int) {
		d.hold(t)
		rows++
		if left == 0 {
			return
		}
		for _, n := range trees {
			walk(d.add(t, n), left-1)
		}
		for h := range d.trees {
			if d.trees[h] != nil {
				walk(d.drop(t, h), left-1)
			}
		}
	}
	walk(desk{Arena: New()}, 5)
	if rows < 5000 {
		t.Errorf("only %d rows", rows)
	}
}

// drawnTree is a tree that is drawn: one of those that were, changed in some way, or another one.
func drawnTree(seed *sample.Seed, was []api.Node) api.Node {
	if len(was) == 0 || seed.Below(3) == 0 {
		if seed.Below(2) == 0 {
			return sample.FitTree(seed, seed.Below(3), 4, 3)
		}
		return sample.AnyTree(seed, 8)
	}
	n := shifted(was[seed.Below(len(was))], 0)
	nodes := sample.NodesOf(&n)
	one := *nodes[seed.Below(len(nodes))]
	switch seed.Below(5) {
	case 0:
		return one // from where it stands on
	case 1:
		n = shifted(n, seed.Below(9)-4)
	case 2:
		n.Field = []string{"", "f"}[seed.Below(2)]
	case 3:
		return api.Node{Kind: "r", From: n.From, To: n.To, Kids: []api.Node{n, shifted(one, seed.Below(2)), n}}
	}
	return n
}

// P20.2 to P20.7: long rows of Adds and Drops, trees that are drawn and their likes.
func TestDrawnRows(t *testing.T) {
	seed := sample.Seed(202)
	free, shared := 0, 0
	for range 60 {
		d := desk{Arena: New()}
		var was []api.Node
		for step := range 60 {
			if seed.Below(5) < 2 {
				d = d.drop(t, seed.Below(len(d.trees)+1))
			} else {
				n := drawnTree(&seed, was)
				if was = append(was, n); len(sample.NodesOf(&n)) > 60 {
					was = nil
				}
				d = d.add(t, n)
			}
			d.hold(t)
			if step%12 == 0 {
				holdTold(t, d.Arena)
			}
			if d.Free != -1 {
				free++
			}
			if len(d.Roots) > 1 && Shared(d.Arena, 0, len(d.Roots)-1) > 1 {
				shared++
			}
		}
		for h := range d.trees {
			d = d.drop(t, h)
			d.hold(t)
		}
		if Live(d.Arena) != 0 {
			t.Fatalf("%v", d.Arena)
		}
	}
	if free < 500 || shared < 100 {
		t.Errorf("%d times with free slots, %d times with some that are shared", free, shared)
	}
}

// P20.6, P20.7: arenas that are fit, however they came to be.
func TestDrawnArenas(t *testing.T) {
	seed := sample.Seed(203)
	for range 600 {
		a := sample.FitArena(&seed, 9)
		holdTold(t, a)
		d := desk{Arena: a}
		for h := range a.Roots {
			var kept *api.Node
			if n, err := Read(a, h); err == api.OK {
				kept = &n
			}
			d.trees = append(d.trees, kept)
		}
		for range 4 {
			d = d.add(t, drawnTree(&seed, []api.Node{sample.TreeOf("a(b)")}))
			d = d.drop(t, seed.Below(len(d.trees)))
			d.hold(t)
			if !fitByWords(d.Arena) {
				t.Fatalf("%v is not fit", d.Arena)
			}
		}
	}
}

// P20.8: one tree twice, and without its Field at its root, moved by any number.
func TestSharing(t *testing.T) {
	seed := sample.Seed(204)
	far := []int{0, 1, -1, 7, -1 << 63, 1<<63 - 1, 1 << 62}
	for i := range 400 {
		n := sample.FitTree(&seed, 3, 9, 4)
		if i%2 == 0 {
			n = sample.AnyTree(&seed, 30)
		}
		n.Field = "f"
		once := added(t, New(), n)
		twice := added(t, once, n)
		slots := Live(once)
		if len(twice.Slots) != slots || twice.Roots[0] != twice.Roots[1] || twice.Slots[twice.Roots[0]].Refs != 2 || Shared(twice, 0, 1) != slots {
			t.Fatalf("%v twice: %v", n, twice)
		}
		bare := shifted(n, 0)
		bare.Field = ""
		for _, by := range far {
			moved := added(t, once, shifted(bare, by))
			if Live(moved) != slots+1 || Shared(moved, 0, 1) != slots-1 {
				t.Fatalf("%v moved by %d: %v", n, by, moved)
			}
			if got, err := Read(moved, 1); !isTree(got, shifted(bare, by)) || err != api.OK {
				t.Fatalf("%v moved by %d: %v, %v", n, by, got, err)
			}
			if under := added(t, once, api.Node{Kind: "above", From: by, Kids: []api.Node{shifted(n, by-n.From)}}); Live(under) > slots+2 {
				t.Fatalf("%v within another one: %v", n, under)
			}
		}
	}
}
