package node

import (
	"reflect"
	"testing"

	"bramble/api"
	"bramble/sample"
)

// P14.3: a node alone, one within the other, many side by side, and both.
func TestLeavesAndCount(t *testing.T) {
	b, c, d := of("b", 0, 1), in("f", of("c", 1, 2)), bad(api.BadMiss, of("d", 2, 2))
	for _, x := range []struct {
		what      string
		n         api.Node
		leaves    []api.Node
		all, deep int
	}{
		{"the zero node", api.Node{}, []api.Node{{}}, 1, 1},
		{"a node alone", c, []api.Node{c}, 1, 1},
		{"one with a list of none", api.Node{Kind: "a", Kids: []api.Node{}}, []api.Node{{Kind: "a"}}, 1, 1},
		{"one in one", of("a", 0, 2, c), []api.Node{c}, 2, 2},
		{"two side by side", of("a", 0, 2, b, c), []api.Node{b, c}, 3, 2},
		{"three, in any order", of("a", 0, 2, d, c, b), []api.Node{d, c, b}, 4, 2},
		{"one twice", of("a", 0, 2, b, b), []api.Node{b, b}, 3, 2},
		{"the deeper one first", of("a", 0, 2, of("x", 0, 1, of("y", 0, 1, b)), c), []api.Node{b, c}, 5, 4},
		{"the deeper one last", of("a", 0, 2, b, of("x", 0, 1, of("y", 0, 1, c))), []api.Node{b, c}, 5, 4},
		{"the deeper one between", of("a", 0, 2, b, of("x", 0, 1, c, d), b), []api.Node{b, c, d, b}, 6, 3},
		{"a row of 7", row(7), []api.Node{of("a", 0, 4)}, 7, 7},
	} {
		if got := Leaves(x.n); !reflect.DeepEqual(got, x.leaves) || !reflect.DeepEqual(leavesByWords(x.n), x.leaves) {
			t.Errorf("%s: Leaves: %v, not %v", x.what, got, x.leaves)
		}
		if all, deep := Count(x.n); all != x.all || deep != x.deep {
			t.Errorf("%s: Count: %d, %d, not %d, %d", x.what, all, deep, x.all, x.deep)
		}
		if Wrong(x.n) != wrongByWords(x.n) {
			t.Errorf("%s: Wrong: %v", x.what, Wrong(x.n))
		}
	}
}

// P14.3: a tree in which nothing is wrong, and with each Bad in each of its nodes alone.
func TestWrong(t *testing.T) {
	deep := of("r", 0, 9, of("a", 0, 4, of("b", 0, 1), of("b", 1, 4, of("c", 1, 2))), of("a", 4, 9, of("b", 4, 5)))
	for i, was := range []api.Node{of("r", 0, 4), of("r", 0, 4, of("a", 0, 4)), row(40), side(40), deep} {
		if Wrong(was) {
			t.Errorf("tree %d: nothing is wrong in it", i)
		}
		for at := range sample.NodesOf(&was) {
			for _, what := range []int{api.BadError, api.BadMiss, 3, -1, 1 << 62, -1 << 63} {
				n := sample.RoomyTree(was)
				if sample.NodesOf(&n)[at].Bad = what; !Wrong(n) {
					t.Errorf("tree %d: Bad %d of node %d is not seen", i, what, at)
				}
			}
		}
	}
	for _, n := range []api.Node{{}, of("ERROR", 0, 4), of("", -1, -2), of("r", 3, 2, of("ERROR", 9, 1))} {
		if Wrong(n) {
			t.Errorf("%v: no Bad is another than BadNone", n)
		}
	}
}

// P14.3: 5000 nodes, within one another and side by side, with nothing wrong but in the last one.
func TestPartsOfGreatest(t *testing.T) {
	for _, c := range []struct {
		n            api.Node
		leaves, deep int
	}{{row(5000), 1, 5000}, {side(4999), 4999, 2}} {
		if all, deep := Count(c.n); all != 5000 || deep != c.deep {
			t.Errorf("Count: %d, %d", all, deep)
		}
		leaves := Leaves(c.n)
		if len(leaves) != c.leaves || leaves[0].Kids != nil || leaves[0].From != 0 || leaves[len(leaves)-1].To != c.n.To {
			t.Errorf("%d leaves", len(leaves))
		}
		if Wrong(c.n) {
			t.Error("nothing is wrong")
		}
		if sample.NodesOf(&c.n)[4999].Bad = api.BadMiss; !Wrong(c.n) {
			t.Error("what is wrong with the last node is not seen")
		}
	}
}

// P14.6: a tree whose leaves are empty, or have gaps between.
func TestLeavesOfFit(t *testing.T) {
	for _, n := range []api.Node{
		of("r", 0, 0),
		row(32),
		side(50),
		of("r", 0, 9, of("a", 0, 0), of("a", 0, 0, of("b", 0, 0), of("b", 0, 0)), of("a", 0, 9, of("b", 9, 9))),
		of("r", 0, 9, of("a", 1, 3, of("b", 1, 1), of("b", 2, 3)), bad(api.BadMiss, of("m", 3, 3)), of("a", 5, 9, of("b", 5, 6, of("c", 5, 6)), of("b", 8, 8))),
	} {
		if !Fit(n, 50) {
			t.Fatalf("%v is not fit", n)
		}
		holdFollows(t, n)
	}
}
