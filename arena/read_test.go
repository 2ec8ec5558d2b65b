package arena

import (
	"testing"

	"bramble/api"
	"bramble/sample"
)

// P20.4: the tree of a handle, its places counted on from the root's From.
func TestRead(t *testing.T) {
	for _, c := range []struct {
		what, arena string
		h           int
		want        string
	}{
		{"a node alone", "-1 | 0 | a@3,5*1", 0, "a@3,5"},
		{"the zero node", "-1 | 0 | *1", 0, ""},
		{"kids", "-1 | 1 | b@0,1*1 a@3,9*1:0,2 c@2,6*1", 0, "a@3,9(b@3,4 c@5,9)"},
		{"kids of kids", "-1 | 0 | a@3,9*1:1 b@1,2*1:2 c@1,4*1", 0, "a@3,9(b@4,5(c@5,8))"},
		{"kids in their order", "-1 | 0 | a*1:3,1,2 b*1 c*1 d*1", 0, "a(d b c)"},
		{"a kid twice", "-1 | 0 | a@4,4*1:1,1 b*2", 0, "a@4,4(b@4,4 b@4,4)"},
		{"a kid of two, each elsewhere", "-1 | 0 | a@1,9*1:1,2 b@1,2*1:3 c@4,6*1:3 d@0,1*2", 0, "a@1,9(b@2,3(d@2,3) c@5,7(d@5,6))"},
		{"from below 0 on", "-1 | 0 | a@-5,6*1:1 b@3,8*1", 0, "a@-5,6(b@-2,3)"},
		{"a kid ahead of its parent", "-1 | 0 | a@5,6*1:1 b@-3,4*1:2 c@-6,-1*1", 0, "a@5,6(b@2,9(c@-4,1))"},
		{"at the ends of 64 bits", "-1 | 0 | a@9223372036854775807,0*1:1 b@1,-2*1", 0, "a@9223372036854775807,0(b@-9223372036854775808,9223372036854775805)"},
		{"at the other end", "-1 | 0 | a@-9223372036854775808,0*1:1 b@-1,0*1", 0, "a@-9223372036854775808,0(b@9223372036854775807,-9223372036854775808)"},
		{"one of several handles", "-1 | 0 -1 1 | a@2,3*1:1 b@1,1*2", 2, "b@1,1"},
		{"the first of them", "-1 | 0 -1 1 | a@2,3*1:1 b@1,1*2", 0, "a@2,3(b@3,3)"},
	} {
		a := sample.ArenaOf(c.arena)
		if !Fit(a) {
			t.Fatalf("%s: not fit", c.what)
		}
		got, err := Read(a, c.h)
		if !isTree(got, sample.TreeOf(c.want)) || err != api.OK {
			t.Errorf("%s: %v, %v, not %s", c.what, got, err, c.want)
		}
		holdTold(t, a)
	}
}

// P20.4: all of a node is told.
func TestReadOfNodes(t *testing.T) {
	was := sample.TreeOf("r@2,9(a@3,4(b@3,3) c@5,9)")
	for i, n := range sample.NodesOf(&was) {
		n.Named, n.Field, n.Bad = i%2 == 0, []string{"", "f", "g"}[i%3], i-1
	}
	if got, err := Read(added(t, New(), was), 0); !isTree(got, was) || err != api.OK {
		t.Errorf("%v, %v, not %v", got, err, was)
	}
}

// P20.5: how many are live, and how many two handles have together.
func TestLiveAndShared(t *testing.T) {
	for _, c := range []struct {
		what, arena        string
		live, g, h, shared int
	}{
		{"nothing", "-1 | |", 0, 0, 0, 0},
		{"free ones alone", "0 | | >1 >-1", 0, 0, 0, 0},
		{"one handle twice", "-1 | 0 | a*1", 1, 0, 0, 1},
		{"one of a tree twice", "-1 | 0 | a*1:1,2 b*1:2 c*2", 3, 0, 0, 3},
		{"a kid many times", "-1 | 0 | a*1:1,1,1 b*3", 2, 0, 0, 2},
		{"two of one tree", "-1 | 0 0 | a*2:1 b*1", 2, 0, 1, 2},
		{"trees that share nothing", "-1 | 0 2 | a*1:1 b*1 c*1:3 d*1", 4, 0, 1, 0},
		{"trees that share nothing, and free ones", "4 | 0 2 | a*1:1 b*1 c*1:3 d*1 >-1", 4, 0, 1, 0},
		{"a leaf", "-1 | 0 1 | a*1:2 b*1:2 c*2", 3, 0, 1, 1},
		{"a leaf, at other depths", "-1 | 0 1 | a*1:2 b*1:3 c*2 d*1:2", 4, 0, 1, 1},
		{"all but the roots", "-1 | 0 1 | a*1:2,3 b*1:3,2 c*2:4 d*2 e*1", 5, 0, 1, 3},
		{"all of the second one", "-1 | 0 1 | a*1:1,2 b*2:2 c*2", 3, 0, 1, 2},
		{"all of the first one", "-1 | 1 0 | a*1:1,2 b*2:2 c*2", 3, 0, 1, 2},
		{"a leaf as a handle", "-1 | 0 1 | a*1:1 b*2", 2, 0, 1, 1},
		{"the first and the third of three", "-1 | 0 1 2 | a*1:3 b*1:4 c*1:3,4 d*2 e*2", 5, 0, 2, 1},
		{"the second and the third of three", "-1 | 0 1 2 | a*1:3 b*1:4 c*1:3,4 d*2 e*2", 5, 1, 2, 1},
		{"the first and the second of three", "-1 | 0 1 2 | a*1:3 b*1:4 c*1:3,4 d*2 e*2", 5, 0, 1, 0},
		{"a released one", "-1 | 0 -1 | a*1", 1, 0, 1, 0},
		{"a released one twice", "-1 | 0 -1 | a*1", 1, 1, 1, 0},
		{"none", "-1 | 0 | a*1", 1, 0, 1, 0},
		{"none below 0", "-1 | 0 | a*1", 1, -1, 0, 0},
	} {
		a := sample.ArenaOf(c.arena)
		if got := Live(a); got != c.live {
			t.Errorf("%s: %d are live, not %d", c.what, got, c.live)
		}
		if got, back := Shared(a, c.g, c.h), Shared(a, c.h, c.g); got != c.shared || back != c.shared {
			t.Errorf("%s: %d and %d, not %d", c.what, got, back, c.shared)
		}
		holdTold(t, a)
	}
}

// P20.5: great trees that have many places together.
func TestSharedOfGreat(t *testing.T) {
	moved := side(4000)
	moved.From += 7
	moved.To += 7
	for i := range moved.Kids {
		moved.Kids[i].From += 7
		moved.Kids[i].To += 7
	}
	a := added(t, New(), side(4000), side(4000), moved, row(20), many(4999), row(90))
	for _, c := range []struct{ g, h, want int }{
		{0, 0, 4001}, {0, 1, 4001}, {0, 2, 4000}, {1, 2, 4000}, {0, 3, 0}, {3, 3, 20}, {4, 4, 2}, {4, 3, 0}, {5, 3, 20}, {3, 5, 20}, {5, 5, 90},
	} {
		if got := Shared(a, c.g, c.h); got != c.want {
			t.Errorf("%d and %d: %d, not %d", c.g, c.h, got, c.want)
		}
	}
	if Live(a) != 4001+1+2+90 {
		t.Errorf("%d are live", Live(a))
	}
}
