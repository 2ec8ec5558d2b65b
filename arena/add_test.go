package arena

import (
	"math"
	"testing"

	"bramble/api"
	"bramble/sample"
)

// P20.2: what is laid where, and what is there already.
func TestAdd(t *testing.T) {
	for _, c := range []struct{ what, was, tree, then string }{
		{"a node alone", "-1 | |", "a@3,5", "-1 | 0 | a@3,5*1"},
		{"the zero node", "-1 | |", "", "-1 | 0 | *1"},
		{"a node from below 0 on", "-1 | |", "a@-7,-9", "-1 | 0 | a@-7,-9*1"},
		{"kids ahead, from the left", "-1 | |", "a(b(c d) e(f))", "-1 | 5 | c*1 d*1 b*1:0,1 f*1 e*1:3 a*1:2,4"},
		{"places from the parent's From on", "-1 | |", "a@3,9(b@4,6(c@5,6) d@8,9)", "-1 | 3 | c@1,2*1 b@1,3*1:0 d@5,6*1 a@3,9*1:1,2"},
		{"ahead of the parent's From", "-1 | |", "a@5,6(b@2,9(c@-4,1))", "-1 | 2 | c@-6,-1*1 b@-3,4*1:0 a@5,6*1:1"},
		{"from below 0 on, and kids behind it", "-1 | |", "a@-5,6(b@-2,3)", "-1 | 1 | b@3,8*1 a@-5,6*1:0"},
		{"at the ends of 64 bits", "-1 | |", "a@-9223372036854775808,9223372036854775807(b@9223372036854775807,-9223372036854775808 c@0,-1)", "-1 | 2 | b@-1,0*1 c@-9223372036854775808,9223372036854775807*1 a@-9223372036854775808,9223372036854775807*1:0,1"},
		{"at the other end", "-1 | |", "a@9223372036854775807,0(b@-9223372036854775808,-2)", "-1 | 1 | b@1,9223372036854775807*1 a@9223372036854775807,0*1:0"},

		{"kids that are alike", "-1 | |", "a(b b b)", "-1 | 1 | b*3 a*1:0,0,0"},
		{"kids that are alike, but for where they begin", "-1 | |", "a@0,2(b@0,1 b@1,2)", "-1 | 2 | b@0,1*1 b@1,2*1 a@0,2*1:0,1"},
		{"kids that begin at the same place, one empty", "-1 | |", "a@4,6(b@4,4 b@4,6 b@4,4)", "-1 | 2 | b*2 b@0,2*1 a@4,6*1:0,1,0"},
		{"kids that are alike, at several nodes", "-1 | |", "a(b(d) c(d))", "-1 | 3 | d*2 b*1:0 c*1:0 a*1:1,2"},
		{"kids that are alike from where their parents begin on", "-1 | |", "a@0,4(b@0,2(c@0,1) b@2,4(c@2,3))", "-1 | 3 | c@0,1*2 b@0,2*1:0 b@2,4*1:0 a@0,4*1:1,2"},
		{"kids with kids that are alike", "-1 | |", "a(b(c d) b(c d) e)", "-1 | 4 | c*1 d*1 b*2:0,1 e*1 a*1:2,2,3"},
		{"one within another one as within a third", "-1 | |", "a(b(c) c)", "-1 | 2 | c*2 b*1:0 a*1:1,0"},
		{"one like its parent, but for that", "-1 | |", "a(a(a))", "-1 | 2 | a*1 a*1:0 a*1:1"},
		{"the order of kids", "-1 | |", "r(a(b c) a(c b))", "-1 | 4 | b*2 c*2 a*1:0,1 a*1:1,0 r*1:2,3"},
		{"how often a kid is there", "-1 | |", "r(a(b) a(b b) a)", "-1 | 4 | b*3 a*1:0 a*1:0,0 a*1 r*1:1,2,3"},

		{"a tree that is there", "-1 | 1 | b*1 a*1:0", "a(b)", "-1 | 1 1 | b*1 a*2:0"},
		{"a tree that is there, moved", "-1 | 1 | b@0,1*1 a@0,2*1:0", "a@7,9(b@7,8)", "-1 | 1 2 | b@0,1*2 a@0,2*1:0 a@7,9*1:0"},
		{"a tree that is within another one", "-1 | 2 | c@0,1*1 b@0,2*1:0 a@5,7*1:1", "b@0,2(c@0,1)", "-1 | 2 1 | c@0,1*1 b@0,2*2:0 a@5,7*1:1"},
		{"a tree that is within another one, not from 0 on", "-1 | 2 | c@0,1*1 b@1,2*1:0 a@4,9*1:1", "b@5,6(c@5,6)", "-1 | 2 3 | c@0,1*2 b@1,2*1:0 a@4,9*1:1 b@5,6*1:0"},
		{"a leaf of one that is there", "-1 | 1 | b*1 a*1:0", "b", "-1 | 1 0 | b*2 a*1:0"},
		{"a tree above one that is there", "-1 | 1 | b*1 a*1:0", "r(a(b))", "-1 | 1 2 | b*1 a*2:0 r*1:1"},
		{"more of what is there", "-1 | 1 | b*1 a*1:0", "a(b b)", "-1 | 1 2 | b*3 a*1:0 a*1:0,0"},
		{"less of what is there", "-1 | 1 | b*1 a*1:0", "a", "-1 | 1 2 | b*1 a*1:0 a*1"},
		{"the first of those that are there", "-1 | 2 3 | b*1 c*1 a*1:0 a*1:1", "r(a(c) a(b))", "-1 | 2 3 4 | b*1 c*1 a*2:0 a*2:1 r*1:3,2"},
		{"behind handles that are released", "-1 | -1 0 -1 | a*1", "a", "-1 | -1 0 -1 0 | a*2"},

		{"some of the free ones", "2 | 0 | a*1 >-1 >1", "y", "1 | 0 2 | a*1 >-1 y*1"},
		{"all of the free ones, in their order", "2 | 0 | a*1 >-1 >1", "x(y)", "-1 | 0 1 | a*1 x*1:2 y*1"},
		{"all of the free ones, then a new one", "2 | 0 | a*1 >-1 >1", "x(y z)", "-1 | 0 3 | a*1 z*1 y*1 x*1:2,1"},
		{"free ones, rising", "0 | | >1 >2 >-1", "a(b)", "2 | 1 | b*1 a*1:0 >-1"},
		{"free ones, and what is there", "1 | 0 | b*1 >2 >-1", "a(b c)", "-1 | 0 2 | b*2 c*1 a*1:0,1"},
		{"no free one, where it is there", "1 | 0 | a*1 >-1", "a", "1 | 0 0 | a*2 >-1"},
		{"the zero node, which no free one holds", "1 | | >-1 >0", "", "0 | 1 | >-1 *1"},
		{"the zero node twice", "0 | | >1 >-1", "a(@0,0 @0,0)", "-1 | 1 | *2 a*1:0,0"},
		{"the zero node, which is there", "0 | 1 | >-1 *1", "a(@0,0)", "-1 | 1 0 | a*1:1 *2"},
	} {
		a, tree, then := sample.ArenaOf(c.was), sample.TreeOf(c.tree), sample.ArenaOf(c.then)
		got, h, err := Add(a, tree)
		if !isSame(got, then) || h != len(a.Roots) || err != api.OK {
			t.Errorf("%s: %v, %d, %v, not %v", c.what, got, h, err, then)
		}
		if !Fit(a) || !Fit(then) {
			t.Errorf("%s: not fit", c.what)
		}
		holdAdd(t, a, tree)
		holdTold(t, got)
	}
}

// otherNodes is a node with each of its parts another one.
func otherNodes(n api.Node) []api.Node {
	all := make([]api.Node, 9)
	for i := range all {
		all[i] = n
	}
	all[0].Kind += "a"
	all[1].Kind = ""
	all[2].Named = !n.Named
	all[3].Field += "f"
	all[4].Bad++
	all[5].Bad = math.MinInt
	all[6].To++
	all[7].To = math.MaxInt
	all[8].From++ // its kids begin elsewhere from there on
	return all
}

// P20.2: trees that differ in Kind, Named, Field, Bad, From or To of one node alone.
func TestAddOfOthers(t *testing.T) {
	was := sample.TreeOf("r@0,9(a@0,4(b@1,2) c@5,9(d@5,6(e@6,6)))")
	for i, n := range sample.NodesOf(&was) {
		n.Named, n.Field, n.Bad = i%2 == 0, "f", 1
	}
	above := []int{1, 2, 3, 2, 3, 4} // so many nodes lie upon one another from the root down to each
	for at, n := range sample.NodesOf(&was) {
		for k, other := range otherNodes(*n) {
			tree := sample.RoomyTree(was)
			other.Kids = sample.RoomyTree(other).Kids
			*sample.NodesOf(&tree)[at] = other
			a := added(t, New(), was)
			b, _ := holdAdd(t, a, tree)
			more := above[at]
			if k == 8 {
				more += len(other.Kids)
			}
			if Live(a) != 6 || Live(b) != 6+more || Shared(b, 0, 1) != 6-more {
				t.Errorf("node %d, change %d: %d slots, then %d; %d shared", at, k, Live(a), Live(b), Shared(b, 0, 1))
			}
			holdTold(t, b)
		}
	}
}

// P20.2: a Kind and a Field that stand one for the other, and bytes of all kinds.
func TestAddOfTexts(t *testing.T) {
	texts := []string{"", "a", "b", "ab", "\x00", "a\x00", "\xff\xfe", "\x00\x01", "世界", "f: a"}
	a := New()
	for _, kind := range texts {
		for _, field := range texts {
			a, _ = holdAdd(t, a, api.Node{Kind: kind, Field: field})
		}
	}
	if Live(a) != 100 || !Fit(a) {
		t.Errorf("%d are live", Live(a))
	}
	n, err := Read(a, 27)
	if !isTree(n, api.Node{Kind: "b", Field: "\x00\x01"}) || err != api.OK {
		t.Errorf("%v, %v", n, err)
	}
}

// withFree is an arena of 4096 slots, or as many fewer as are told, so many of them free.
func withFree(t *testing.T, fewer, free int) api.Arena {
	t.Helper()
	a := added(t, New(), side(4095-fewer-free))
	if free == 0 {
		return a
	}
	a = dropped(t, added(t, a, row(free)), 1)
	if len(a.Slots) != 4096-fewer || Live(a) != 4096-fewer-free {
		t.Fatalf("%d slots, %d live", len(a.Slots), Live(a))
	}
	return a
}

// needs is trees, and how many slots each needs beside the kids of side.
func needs() map[int][]api.Node {
	b := api.Node{Kind: "b", To: 1}
	above := func(kids ...api.Node) api.Node { return api.Node{Kind: "x", Kids: kids} }
	return map[int][]api.Node{
		0: {b, side(3).Kids[2]},
		1: {above(), above(b), above(side(200).Kids...)},
		2: {sample.TreeOf("x(y)"), sample.TreeOf("x(y y y y y y y y y)"), above(above(b), b)},
		3: {sample.TreeOf("x(y z)"), sample.TreeOf("x(y z(y) y)"), sample.TreeOf("x(x(x))")},
		5: {sample.TreeOf("x(x(y z) z(y) z)")},
	}
}

// P20.2: an arena in which there is just as much room as is needed, and less: as it was, if that is found in the midst of a tree.
func TestAddOfFull(t *testing.T) {
	for fewer := range 4 {
		for free := range 4 {
			a := withFree(t, fewer, free)
			for need, trees := range needs() {
				for _, n := range trees {
					made, err := holdAdd(t, a, n)
					if need > fewer+free && (err != api.ErrFull || !isSame(made, a)) {
						t.Errorf("%d needed, %d free and %d new ones: %v", need, free, fewer, err)
					}
					if need <= fewer+free && (err != api.OK || Live(made) != Live(a)+need || !Fit(made)) {
						t.Errorf("%d needed, %d free and %d new ones: %v, %d live", need, free, fewer, err, Live(made))
					}
				}
			}
			if made := added(t, a, side(4095-fewer-free)); made.Roots[0] != made.Roots[len(a.Roots)] || Live(made) != Live(a) {
				t.Error("the whole tree again is another one")
			}
		}
	}
}

// P20.2: trees that need just 4096 slots, and one more.
func TestAddOfGreat(t *testing.T) {
	deep := row(4096)
	deep.Kids = append(deep.Kids, api.Node{Kind: "a"}) // which is there already
	for _, c := range []struct {
		what string
		n    api.Node
		need int
	}{
		{"side by side", side(4095), 4096},
		{"side by side, one more", side(4096), 4097},
		{"within one another", row(4096), 4096},
		{"within one another, one more", row(4097), 4097},
		{"within one another, and one that is there", deep, 4096},
		{"5000 nodes that are alike", many(4999), 2},
		{"5000 nodes side by side", side(4999), 5000},
		{"5000 nodes within one another", row(5000), 5000},
	} {
		made, h, err := Add(New(), c.n)
		if c.need > 4096 {
			if !isSame(made, New()) || h != 0 || err != api.ErrFull {
				t.Errorf("%s: %v", c.what, err)
			}
			continue
		}
		n, readErr := Read(made, 0)
		if h != 0 || err != api.OK || Live(made) != c.need || !Fit(made) || readErr != api.OK || !isTree(n, c.n) {
			t.Errorf("%s: %v, %v, %d live", c.what, err, readErr, Live(made))
		}
		if made = dropped(t, made, 0); Live(made) != 0 || len(made.Slots) != c.need || !Fit(made) {
			t.Errorf("%s: %d live behind Drop", c.what, Live(made))
		}
	}
}

// P20.2: just 4096 handles, and one more: ErrMany, ahead of ErrFull.
func TestAddOfManyHandles(t *testing.T) {
	full := added(t, New(), side(4095))
	for len(full.Roots) < 4095 {
		full.Roots = append(full.Roots, -1)
	}
	if made, err := holdAdd(t, full, api.Node{Kind: "x"}); err != api.ErrFull || !isSame(made, full) {
		t.Errorf("of 4095 handles: %v", err)
	}
	full, err := holdAdd(t, full, side(4095))
	if err != api.OK || len(full.Roots) != 4096 || !Fit(full) {
		t.Fatalf("the last handle: %v", err)
	}
	roomy := sample.ArenaOf("-1 | 0 | a*1")
	gone := New()
	for range 4096 {
		gone.Roots = append(gone.Roots, -1)
	}
	roomy.Roots = append(roomy.Roots, gone.Roots[1:]...)
	for i, a := range []api.Arena{full, roomy, gone, dropped(t, full, 0, 4095)} {
		for _, n := range []api.Node{side(4095), {Kind: "x"}, {Kind: "a"}, side(4096)} {
			made, h, err := Add(a, n)
			if !isSame(made, a) || h != 0 || err != api.ErrMany {
				t.Errorf("arena %d, %s: %d, %v", i, n.Kind, h, err)
			}
		}
	}
}

// P20.2: 4096 handles of one tree, and some of trees that differ in their roots alone.
func TestAddOfEachHandle(t *testing.T) {
	a, b := New(), New()
	for i := range 4096 {
		made, h, err := Add(a, sample.TreeOf("a(b)"))
		if a = made; h != i || err != api.OK {
			t.Fatalf("handle %d: %d, %v", i, h, err)
		}
		if i < 1000 {
			b = added(t, b, api.Node{From: i, To: i})
		}
	}
	if Live(a) != 2 || a.Slots[1].Refs != 4096 || a.Slots[0].Refs != 1 || Live(b) != 1000 || !Fit(a) || !Fit(b) {
		t.Errorf("%d and %d are live", Live(a), Live(b))
	}
}
