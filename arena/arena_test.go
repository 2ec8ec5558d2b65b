package arena

import (
	"reflect"
	"slices"
	"testing"

	"bramble/api"
	"bramble/sample"
)

// isSame tells whether two arenas are alike in all but lists of none, as none of the calls looks at them.
func isSame(a, b api.Arena) bool {
	return a.Free == b.Free && slices.Equal(a.Roots, b.Roots) && slices.EqualFunc(a.Slots, b.Slots, func(x, y api.Slot) bool {
		bare := len(x.Node.Kids) == 0 && len(y.Node.Kids) == 0
		return x.Refs == y.Refs && x.Next == y.Next && isAlike(x, y) && (bare || isTree(x.Node, y.Node))
	})
}

// isTree tells whether two trees are alike in all but lists of none.
func isTree(a, b api.Node) bool {
	return reflect.DeepEqual(sample.RoomyTree(a), sample.RoomyTree(b))
}

// added is an arena with some more trees.
func added(t *testing.T, a api.Arena, trees ...api.Node) api.Arena {
	t.Helper()
	for _, n := range trees {
		made, h, err := Add(a, n)
		if err != api.OK || h != len(a.Roots) {
			t.Fatalf("%d, %v", h, err)
		}
		a = made
	}
	return a
}

// dropped is an arena without some handles.
func dropped(t *testing.T, a api.Arena, handles ...int) api.Arena {
	t.Helper()
	for _, h := range handles {
		made, err := Drop(a, h)
		if err != api.OK {
			t.Fatalf("handle %d: %v", h, err)
		}
		a = made
	}
	return a
}

// side is a node with so many kids, no two of which are alike.
func side(kids int) api.Node {
	n := api.Node{Kind: "a", To: kids}
	for i := range kids {
		n.Kids = append(n.Kids, api.Node{Kind: "b", From: i, To: i + 1})
	}
	return n
}

// many is a node with so many kids that are all alike.
func many(kids int) api.Node {
	n := api.Node{Kind: "a"}
	for range kids {
		n.Kids = append(n.Kids, api.Node{Kind: "b"})
	}
	return n
}

// row is so many nodes, each within the one ahead.
func row(nodes int) api.Node {
	n := api.Node{Kind: "a"}
	for range nodes - 1 {
		n = api.Node{Kind: "a", Kids: []api.Node{n}}
	}
	return n
}

// holdAdd holds Add against the chapter's words.
func holdAdd(t *testing.T, a api.Arena, n api.Node) (api.Arena, api.Errno) {
	t.Helper()
	made, h, err := Add(a, n)
	want, wantH, wantErr := addByWords(a, n)
	if !isSame(made, want) || h != wantH || err != wantErr {
		t.Fatalf("Add of %v to %v:\n%v, %d, %v, not\n%v, %d, %v", n, a, made, h, err, want, wantH, wantErr)
	}
	return made, err
}

// holdDrop holds Drop against the chapter's words.
func holdDrop(t *testing.T, a api.Arena, h int) (api.Arena, api.Errno) {
	t.Helper()
	made, err := Drop(a, h)
	want, wantErr := dropByWords(a, h)
	if !isSame(made, want) || err != wantErr {
		t.Fatalf("Drop of %d of %v:\n%v, %v, not\n%v, %v", h, a, made, err, want, wantErr)
	}
	return made, err
}

// holdTold holds all that is told of an arena that is fit against the chapter's words.
func holdTold(t *testing.T, a api.Arena) {
	t.Helper()
	if !Fit(a) || !fitByWords(a) {
		t.Fatalf("%v is not fit", a)
	}
	if got, want := Live(a), liveByWords(a); got != want {
		t.Fatalf("%v: %d are live, not %d", a, got, want)
	}
	for h := -1; h <= len(a.Roots); h++ {
		n, err := Read(a, h)
		want, wantErr := readByWords(a, h)
		if !isTree(n, want) || err != wantErr {
			t.Fatalf("Read of %d of %v: %v, %v, not %v, %v", h, a, n, err, want, wantErr)
		}
		for g := -1; g <= len(a.Roots); g++ {
			if got, want := Shared(a, g, h), sharedByWords(a, g, h); got != want {
				t.Fatalf("Shared of %d and %d of %v: %d, not %d", g, h, a, got, want)
			}
		}
	}
}

// P20.1: no slots, Free -1, no Roots.
func TestNew(t *testing.T) {
	if got := New(); !reflect.DeepEqual(got, api.Arena{Free: -1}) || !Fit(got) || Live(got) != 0 {
		t.Errorf("%v", got)
	}
}

// The chapter's examples.
func TestExamples(t *testing.T) {
	for _, c := range []struct{ tree, want string }{
		{"a@0,2(b@0,1 b@1,2)", "-1 | 2 | b@0,1*1 b@1,2*1 a@0,2*1:0,1"},
		{"a@0,2(b b)", "-1 | 1 | b*2 a@0,2*1:0,0"},
	} {
		a := added(t, New(), sample.TreeOf(c.tree))
		if !reflect.DeepEqual(a, sample.ArenaOf(c.want)) {
			t.Errorf("%s: %v, not %s", c.tree, a, c.want)
		}
	}
}
