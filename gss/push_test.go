package gss

import (
	"math"
	"reflect"
	"testing"

	"bramble/api"
	"bramble/sample"
)

// P16.3: what is pushed, and what is not.
func TestPush(t *testing.T) {
	const some = "2@0 5@0:0 1@3:0 2@3:1,2 9@3"
	for _, c := range []struct {
		what, stack     string
		from, state, at int
		want            string
		number          int
		fresh           bool
	}{
		{"a new node behind all", some, 2, 7, 4, some + " 7@4:2", 5, true},
		{"a new node behind all of its place", some, 2, 10, 3, some + " 10@3:2", 5, true},
		{"a new node upon the last one", some, 4, 7, 4, some + " 7@4:4", 5, true},
		{"the greatest numbers", some, 0, 65535, 65535, some + " 65535@65535:0", 5, true},
		{"a new node among others", some, 0, 7, 2, "2@0 5@0:0 7@2:0 1@3:0 2@3:1,3 9@3", 2, true},
		{"a new node among others of its place", some, 1, 5, 3, "2@0 5@0:0 1@3:0 2@3:1,2 5@3:1 9@3", 4, true},
		{"a new node ahead of those it is pushed upon", some, 3, 0, 3, "2@0 5@0:0 0@3:4 1@3:0 2@3:1,3 9@3", 2, true},
		{"a new node ahead of the one that links to the one ahead", some, 2, 0, 3, "2@0 5@0:0 0@3:3 1@3:0 2@3:1,3 9@3", 2, true},
		{"a new node ahead of all", some, 0, 0, 0, "0@0:1 2@0 5@0:1 1@3:1 2@3:2,3 9@3", 0, true},
		{"a new node ahead of all, upon the second one", some, 1, 1, 0, "1@0:2 2@0 5@0:1 1@3:1 2@3:2,3 9@3", 0, true},
		{"a new node between the first ones", some, 1, 3, 0, "2@0 3@0:2 5@0:0 1@3:0 2@3:2,3 9@3", 1, true},
		{"a node that is there, with the link", some, 0, 1, 3, some, 2, false},
		{"a node that is there, with the link among others", some, 2, 2, 3, some, 3, false},
		{"a node that is there, without links", some, 1, 9, 3, "2@0 5@0:0 1@3:0 2@3:1,2 9@3:1", 4, true},
		{"a node that is there, a link ahead of others", some, 0, 2, 3, "2@0 5@0:0 1@3:0 2@3:0,1,2 9@3", 3, true},
		{"a node that is there, a link behind others", some, 4, 2, 3, "2@0 5@0:0 1@3:0 2@3:1,2,4 9@3", 3, true},
		{"a node that is there, a link among others", "0@0 1@0 2@0 3@1:0,2", 1, 3, 1, "0@0 1@0 2@0 3@1:0,1,2", 3, true},
		{"a node upon itself", some, 4, 9, 3, "2@0 5@0:0 1@3:0 2@3:1,2 9@3:4", 4, true},
		{"a node upon itself, that has the link", "2@0:0", 0, 2, 0, "2@0:0", 0, false},
		{"a node upon one that links to it", some, 1, 2, 0, "2@0:1 5@0:0 1@3:0 2@3:1,2 9@3", 0, true},
		{"from behind the last one", some, 5, 7, 4, some, -1, false},
		{"from below 0", some, -1, 7, 4, some, -1, false},
		{"from far behind", some, math.MaxInt, 7, 4, some, -1, false},
		{"from far below", some, math.MinInt, 7, 4, some, -1, false},
		{"from that is none, the node is there", some, 5, 9, 3, some, -1, false},
		{"at below from's", some, 2, 7, 2, some, -1, false},
		{"at below from's, the node is there", some, 2, 5, 0, some, -1, false},
		{"at below from's, with the first of its place", some, 4, 7, 0, some, -1, false},
		{"at below 0", some, 0, 7, -1, some, -1, false},
		{"at far below 0", some, 0, 7, math.MinInt, some, -1, false},
		{"at above", some, 0, 7, 65536, some, -1, false},
		{"at far above", some, 0, 7, math.MaxInt, some, -1, false},
		{"a state below 0", some, 0, -1, 4, some, -1, false},
		{"a state far below 0", some, 0, math.MinInt, 4, some, -1, false},
		{"a state above", some, 0, 65536, 4, some, -1, false},
		{"a state far above", some, 0, math.MaxInt, 4, some, -1, false},
		{"a stack without nodes", "", 0, 0, 0, "", -1, false},
		{"a stack without nodes, from below 0", "", -1, 0, 0, "", -1, false},
	} {
		g, want := sample.StackOf(c.stack), sample.StackOf(c.want)
		got, number, fresh := Push(g, c.from, c.state, c.at)
		if !reflect.DeepEqual(got, want) || number != c.number || fresh != c.fresh {
			t.Errorf("%s: %v, %d, %v", c.what, got, number, fresh)
		}
		got, number, fresh = pushByWords(g, c.from, c.state, c.at)
		if !reflect.DeepEqual(got, want) || number != c.number || fresh != c.fresh {
			t.Errorf("%s: by the words %v, %d, %v", c.what, got, number, fresh)
		}
		if !Fit(g) || !Fit(want) {
			t.Errorf("%s: a stack is not fit", c.what)
		}
	}
}

// holdPush fails where something else is told of what is pushed than the chapter's words say, or it is not fit.
func holdPush(t *testing.T, g api.Gss, from, state, at int) api.Gss {
	t.Helper()
	got, number, fresh := Push(g, from, state, at)
	want, wantNumber, wantFresh := pushByWords(g, from, state, at)
	if !reflect.DeepEqual(got, want) || number != wantNumber || fresh != wantFresh {
		t.Fatalf("%v: Push of %d at %d upon %d: %v, %d, %v, not %v, %d, %v", g, state, at, from, got, number, fresh, want, wantNumber, wantFresh)
	}
	if !Fit(got) {
		t.Fatalf("%v: Push of %d at %d upon %d: %v is not fit", g, state, at, from, got)
	}
	return got
}

// P16.3: every small stack.
func TestPushUponEvery(t *testing.T) {
	for g := range sample.Stacks(3, 2, 2) {
		for from := -1; from <= len(g.Nodes); from++ {
			for state := -1; state <= 2; state++ {
				for at := -1; at <= 2; at++ {
					holdPush(t, g, from, state, at)
				}
			}
		}
	}
}

// P16.3: drawn stacks, and stacks of many that are pushed one after another.
func TestDrawnPush(t *testing.T) {
	seed := sample.Seed(165)
	for range 3000 {
		g := sample.FitStack(&seed, 12, 5, 5)
		holdPush(t, g, seed.Below(14)-1, seed.Below(6)-1, seed.Below(6)-1)
	}
	for range 30 {
		g := New(seed.Below(4))
		for at := 0; at < 12; at += seed.Below(2) {
			g = holdPush(t, g, seed.Below(len(g.Nodes)), seed.Below(4), at)
		}
		if len(g.Nodes) < 5 {
			t.Fatalf("only %d nodes", len(g.Nodes))
		}
	}
}

// P16.3: 4096 nodes: one more is none, a link more is one.
func TestPushUponMany(t *testing.T) {
	g := sample.StackOfMany(4095, 5, 2)
	got, number, fresh := Push(g, 4094, 0, 900)
	if len(got.Nodes) != 4096 || number != 4095 || !fresh || !Fit(got) {
		t.Fatalf("%d nodes, %d, %v", len(got.Nodes), number, fresh)
	}
	got, number, fresh = Push(g, 0, 1, 0)
	if len(got.Nodes) != 4096 || number != 1 || !fresh || !Fit(got) || got.Nodes[1].State != 1 || got.Nodes[1].Links[0] != 0 {
		t.Fatalf("%d nodes, %d, %v", len(got.Nodes), number, fresh)
	}
	full := got
	for _, c := range []struct{ from, state, at int }{{0, 1, 3}, {4095, 0, 900}, {0, 9, 0}, {1, 65535, 65535}, {0, 3, 0}} {
		got, number, fresh := Push(full, c.from, c.state, c.at)
		if !reflect.DeepEqual(got, full) || number != -1 || fresh {
			t.Errorf("%d at %d upon %d: %d nodes, %d, %v", c.state, c.at, c.from, len(got.Nodes), number, fresh)
		}
	}
	for _, c := range []struct{ from, state, at, number int }{{0, 2, 3, 17}, {4095, 8, 818, 4095}, {1, 1, 0, 1}, {0, 0, 0, 0}, {3, 0, 0, 0}} {
		linked, number, fresh := Push(full, c.from, c.state, c.at)
		if len(linked.Nodes) != 4096 || number != c.number || !fresh || !Fit(linked) {
			t.Fatalf("%d at %d upon %d: %d nodes, %d, %v", c.state, c.at, c.from, len(linked.Nodes), number, fresh)
		}
		want := sample.RoomyStack(full)
		want.Nodes[number].Links = append(want.Nodes[number].Links, c.from)
		if !Same(linked, want) {
			t.Errorf("%d at %d upon %d: other links", c.state, c.at, c.from)
		}
		again, number, fresh := Push(linked, c.from, c.state, c.at)
		if !Same(again, linked) || number != c.number || fresh {
			t.Errorf("%d at %d upon %d, again: %d, %v", c.state, c.at, c.from, number, fresh)
		}
	}
}

// P16.3: a new node ahead of many is told in all links.
func TestPushTellsNumbersAnew(t *testing.T) {
	g := sample.StackOfMany(600, 300, 2)
	for number := range g.Nodes {
		for link := range 300 {
			g.Nodes[number].Links = append(g.Nodes[number].Links, link)
		}
	}
	for _, place := range []int{0, 1, 150, 299} {
		made, number, fresh := Push(g, place, 2*place+1, 0)
		if number != place+1 || !fresh || !Fit(made) || len(made.Nodes) != 601 {
			t.Fatalf("behind %d: %d, %v", place, number, fresh)
		}
		for at, node := range made.Nodes {
			want := 300
			if at == number {
				want = 1
			}
			if len(node.Links) != want {
				t.Fatalf("behind %d: node %d has %d links", place, at, len(node.Links))
			}
			for i, link := range node.Links {
				if at == number {
					i = place
				}
				if made.Nodes[link].State != 2*i || made.Nodes[link].At != 0 {
					t.Fatalf("behind %d: node %d links to %d", place, at, link)
				}
			}
		}
	}
}
