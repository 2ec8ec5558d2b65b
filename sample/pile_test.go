package sample

import (
	"reflect"
	"testing"
)

func TestPile(t *testing.T) {
	g := StackOf("0@0 7@1:0 9@1 3@2:0,1,3")
	p := PileOf(g)
	if len(p) != 4 || p.Links() != 4 || !reflect.DeepEqual(p.Stack(), g) {
		t.Fatalf("%v", p)
	}
	for number := range g.Nodes {
		if name := NameOf(g, number); p.Number(name) != number || name != (Name{g.Nodes[number].At, g.Nodes[number].State}) {
			t.Errorf("node %d: %v, %d", number, name, p.Number(name))
		}
	}
	p.Put(Name{1, 8})
	p.Put(Name{1, 7}, Name{0, 0}, Name{1, 8})
	if want := StackOf("0@0 7@1:0,2 8@1 9@1 3@2:0,1,4"); !reflect.DeepEqual(p.Stack(), want) {
		t.Errorf("%v, not %v", p.Stack(), want)
	}
	if got := (Pile{}).Stack(); got.Nodes != nil {
		t.Errorf("%v", got)
	}
}

func TestPileWithin(t *testing.T) {
	few, more, other := StackOf("0@0 7@1"), StackOf("0@0 7@1:0"), StackOf("0@0 7@1:1")
	both := PileOf(more, other)
	if both.Links() != 2 || len(both) != 2 {
		t.Errorf("%v", both)
	}
	for _, c := range []struct {
		what   string
		a, b   Pile
		within bool
	}{
		{"alike", PileOf(more), PileOf(more), true},
		{"a link more", PileOf(few), PileOf(more), true},
		{"a link less", PileOf(more), PileOf(few), false},
		{"another link", PileOf(more), PileOf(other), false},
		{"one of two", PileOf(more), both, true},
		{"two of one", both, PileOf(more), false},
		{"a node less", PileOf(few), PileOf(StackOf("0@0")), false},
		{"nothing", Pile{}, PileOf(few), true},
	} {
		if got := c.a.Within(c.b); got != c.within {
			t.Errorf("%s: %v", c.what, got)
		}
	}
}
