package diff

import (
	"math"
	"slices"
	"strings"
	"testing"

	"bramble/api"
	"bramble/sample"
)

// P22.3: the bytes that have changed.
func TestChanged(t *testing.T) {
	at := func(at, old int, text string) []api.Edit { return []api.Edit{{At: at, Old: old, Text: text}} }
	for _, c := range []struct {
		what, a, b string
		l          []api.Edit
		size       int
		want       string
	}{
		{"the example", "a@0,3", "a@0,4", at(3, 0, "x"), 4, "2-4"},
		{"one put in within", "a@0,3", "a@0,4", at(1, 0, "x"), 4, "1-2"},
		{"one put in at the beginning", "a@0,3", "a@0,4", at(0, 0, "x"), 4, "0-2"},
		{"one put in for one", "a@0,3", "a@0,3", at(1, 1, "x"), 3, "1-2"},
		{"one put in for one at the beginning", "a@0,3", "a@0,3", at(0, 1, "x"), 3, "0-1"},
		{"one taken out within", "a@0,3", "a@0,2", at(1, 1, ""), 2, ""},
		{"the first one taken out", "a@0,3", "a@0,2", at(0, 1, ""), 2, "0-1"},
		{"the last one taken out", "a@0,3", "a@0,2", at(2, 1, ""), 2, "1-2"},
		{"all taken out", "a@0,3", "a@0,0", at(0, 3, ""), 0, ""},
		{"all put in", "a@0,0", "a@0,3", at(0, 0, "xyz"), 3, "0-3"},
		{"no edits, another Kind", "a@0,3", "b@0,3", nil, 3, "0-3"},
		{"no edits, a kid of another Kind", "r@0,4(a@1,3)", "r@0,4(b@1,3)", nil, 4, "1-3"},
		{"no edits, one more within", "r@0,5(a@1,4)", "r@0,5(a@1,4(b@2,3))", nil, 5, "2-3"},
		{"no edits, one more around", "r@0,5(b@2,3)", "r@0,5(a@1,4(b@2,3))", nil, 5, "1-4"},
		{"no edits, two in the other order", "r@0,2(a@0,2(b@0,2))", "r@0,2(b@0,2(a@0,2))", nil, 2, "0-2"},
		{"no edits, one that begins earlier", "r@0,5(a@2,4)", "r@0,5(a@1,4)", nil, 5, "1-3"},
		{"no edits, one that ends earlier", "r@0,5(a@1,4)", "r@0,5(a@1,3)", nil, 5, "2-4"},
		{"no edits, one made two", "r@0,4(a@0,4)", "r@0,4(a@0,2 a@2,4)", nil, 4, "1-3"},
		{"no edits, one less", "r@0,4(a@0,2 b@3,4)", "r@0,4(b@3,4)", nil, 4, "0-2"},
		{"no edits, more without bytes", "r@0,4(a@1,3)", "r@0,4(x@0,0 x@1,1 a@1,3(y@2,2) x@4,4)", nil, 4, ""},
		{"no edits, the root ends earlier", "r@0,4", "r@0,3", nil, 4, "2-4"},
		{"no edits, nothing is covered", "r@0,0", "s@2,2", nil, 4, ""},
		{"two ranges", "r@0,7(a@1,2 b@3,6)", "r@0,7(c@1,2 b@3,6(d@4,5))", nil, 7, "1-2 4-5"},
		{"ranges that touch", "r@0,4(a@0,1 b@1,2 c@3,4)", "r@0,4(x@0,1 y@1,2 z@3,4)", nil, 4, "0-2 3-4"},
		{"put in beside what differs", "r@0,3(a@1,2)", "r@0,4(b@2,3)", at(1, 0, "x"), 4, "1-3"},
		{"put in apart from what differs", "r@0,4(a@3,4)", "r@0,5(b@4,5)", at(1, 0, "x"), 5, "1-2 4-5"},
		{"a kid that moves", "r@0,5(a@3,4)", "r@0,7(a@5,6)", at(1, 0, "xy"), 7, "1-3"},
		{"a kid that does not move", "r@0,5(a@3,4)", "r@0,7(a@3,4)", at(1, 0, "xy"), 7, "1-4 5-6"},
		{"a kid is split", "r@0,4(a@1,3)", "r@0,5(a@1,2 b@2,3 a@3,4)", at(2, 0, "x"), 5, "1-4"},
		{"two kids grow together", "r@0,5(a@0,2 b@2,3 a@3,5)", "r@0,4(a@0,4)", at(2, 1, ""), 4, "1-3"},
		{"from beyond the tree ahead", "r@0,2", "r@0,2", at(0, 2, ""), 2, "0-2"},
		{"from beyond both trees", "r@0,2", "r@0,2", at(2, 5, ""), 4, ""},
		{"an edit that is none", "r@0,2", "r@0,2", at(-1, 0, ""), 3, "0-3"},
		{"an Old that is none", "r@0,2", "r@0,2", at(5, -1, ""), 3, "0-3"},
		{"an edit far behind", "r@0,2", "r@0,2", at(math.MaxInt, math.MaxInt, "x"), 3, ""},
		{"bytes that wrap round", "r@0,2", "r@0,2", at(1, math.MaxInt, ""), 3, "1-3"},
		{"bytes of 1 + 2 for none", "r@0,0", "two@0,3(two@0,1(n@0,1) +@1,2 two@2,3(n@2,3))", at(0, 0, "1+2"), 3, "0-3"},
		{"bytes of 1 for 1 + 2", "two@0,3(two@0,1(n@0,1) +@1,2 two@2,3(n@2,3))", "two@0,1(n@0,1)", at(1, 2, ""), 1, "0-1"},
		{"two edits", "r@0,4(a@0,1 b@1,3 c@3,4)", "r@0,6(a@0,1 b@2,4 c@5,6)", []api.Edit{{At: 1, Text: "x"}, {At: 4, Text: "y"}}, 6, "1-2 4-5"},
		{"two edits, the later one ahead", "r@0,4(a@0,1 b@1,3 c@3,4)", "r@0,6(a@0,1 b@2,4 c@5,6)", []api.Edit{{At: 3, Text: "y"}, {At: 1, Text: "x"}}, 6, "1-2 4-5"},
		{"the same edits in the other order", "r@0,4(a@0,1 b@1,3 c@3,4)", "r@0,6(a@0,1 b@2,4 c@5,6)", []api.Edit{{At: 4, Text: "y"}, {At: 1, Text: "x"}}, 6, "1-2 4-6"},
	} {
		a, b := treeOf(c.a), treeOf(c.b)
		if got := Changed(a, b, c.l, c.size); rangeText(got) != c.want || c.want == "" && got != nil {
			t.Errorf("%s: %v, not %s", c.what, got, c.want)
		}
		holdChanged(t, a, b, c.l, c.size)
	}
}

// P22.3, P22.4: sizes below 0, of 0, less than, just and more than the tree's end.
func TestSizes(t *testing.T) {
	a, b := treeOf("r@1,4(a@1,2 b@3,4)"), treeOf("r@1,4(a@1,2 c@3,4)")
	for _, c := range []struct {
		size  int
		put   string
		alike bool
	}{
		{math.MinInt, "", true}, {math.MinInt + 1, "", true}, {-1 << 32, "", true}, {-api.MaxText, "", true}, {-2, "", true}, {-1, "", true},
		{0, "", true}, {1, "0-1", true}, {2, "0-1", true}, {3, "0-1", true}, {4, "0-1 3-4", false}, {5, "0-1 3-4", false}, {9, "0-1 3-4", false},
		{api.MaxText, "0-1 3-4", false}, {api.MaxText + 1, "0-1 3-4", false}, {1 << 32, "0-1 3-4", false}, {math.MaxInt - 1, "0-1 3-4", false}, {math.MaxInt, "0-1 3-4", false},
	} {
		l := []api.Edit{{Old: 1, Text: "x"}}
		if got := Changed(a, b, l, c.size); rangeText(got) != c.put || c.put == "" && got != nil {
			t.Errorf("%d bytes: %v, not %s", c.size, got, c.put)
		}
		holdChanged(t, a, b, l, min(c.size, 20))
		if got := Changed(a, a, nil, c.size); got != nil {
			t.Errorf("%d bytes, one tree twice: %v", c.size, got)
		}
		if Alike(a, b, c.size) != c.alike || Alike(b, a, c.size) != c.alike || !Alike(a, a, c.size) {
			t.Errorf("%d bytes: not %v", c.size, c.alike)
		}
	}
}

// P22.3, P22.4: no byte beyond MaxText is looked at, and all below are.
func TestGreatestSizes(t *testing.T) {
	end := api.MaxText
	long := func(kinds ...string) api.Node {
		n := api.Node{Kind: "r", To: end + 2}
		for i, kind := range kinds {
			n.Kids = append(n.Kids, api.Node{Kind: kind, From: end - 2 + i, To: end - 1 + i})
		}
		return n
	}
	was := long("a", "b", "c")
	for _, c := range []struct {
		n     api.Node
		size  int
		want  []api.Range
		alike bool
	}{
		{long("a", "b", "x"), end, nil, true},
		{long("a", "b", "x"), end + 1, nil, true},
		{long("a", "b", "x"), math.MaxInt, nil, true},
		{long("a", "x", "c"), end - 1, nil, true},
		{long("a", "x", "c"), end, []api.Range{{From: end - 1, To: end}}, false},
		{long("a", "x", "c"), end + 1, []api.Range{{From: end - 1, To: end}}, false},
		{long("a", "x", "x"), math.MaxInt, []api.Range{{From: end - 1, To: end}}, false},
		{long("x", "x", "x"), end, []api.Range{{From: end - 2, To: end}}, false},
		{long("x", "b", "x"), end - 1, []api.Range{{From: end - 2, To: end - 1}}, false},
		{long("x", "b", "x"), end - 2, nil, true},
		{api.Node{Kind: "s", To: end}, math.MaxInt, []api.Range{{To: end}}, false},
	} {
		if got := Changed(was, c.n, nil, c.size); !slices.Equal(got, c.want) {
			t.Errorf("%v, %d bytes: %v", c.n.Kids, c.size, got)
		}
		if Alike(was, c.n, c.size) != c.alike || Alike(c.n, was, c.size) != c.alike {
			t.Errorf("%v, %d bytes: not %v", c.n.Kids, c.size, c.alike)
		}
	}
	l := []api.Edit{{Text: strings.Repeat("x", end)}}
	if got := Changed(was, was, l, math.MaxInt); !slices.Equal(got, []api.Range{{To: end}}) {
		t.Errorf("all put in: %v", got)
	}
	ahead := []api.Edit{{Old: 1}}
	if got := Changed(long("a", "b", "c"), api.Node{Kind: "r", To: end + 2}, ahead, end); !slices.Equal(got, []api.Range{{To: 1}, {From: end - 3, To: end}}) {
		t.Errorf("the byte beyond comes within: %v", got)
	}
}

// P22.4: in what trees may differ, and be alike.
func TestAlike(t *testing.T) {
	n := treeOf("r@0,6(a@1,3(c@1,2 c@2,3) x@3,3 b@4,6)")
	for _, c := range []struct {
		what, other string
		want        bool
	}{
		{"the same", "r@0,6(a@1,3(c@1,2 c@2,3) x@3,3 b@4,6)", true},
		{"without the one without bytes", "r@0,6(a@1,3(c@1,2 c@2,3) b@4,6)", true},
		{"the one without bytes has another Kind", "r@0,6(a@1,3(c@1,2 c@2,3) y@3,3 b@4,6)", true},
		{"the one without bytes lies elsewhere", "r@0,6(x@0,0 a@1,3(c@1,2 c@2,3) b@4,6)", true},
		{"more without bytes", "r@0,6(x@1,1 a@1,3(x@1,1 c@1,2(x@1,1) c@2,3 x@3,3) x@3,3 b@4,6 x@6,6(x@6,6))", true},
		{"the root has another Kind", "s@0,6(a@1,3(c@1,2 c@2,3) x@3,3 b@4,6)", false},
		{"a leaf has another Kind", "r@0,6(a@1,3(c@1,2 d@2,3) x@3,3 b@4,6)", false},
		{"a Kind with one byte more", "r@0,6(a@1,3(c@1,2 c@2,3) x@3,3 bb@4,6)", false},
		{"one begins earlier", "r@0,6(a@0,3(c@1,2 c@2,3) x@3,3 b@4,6)", false},
		{"one ends later", "r@0,6(a@1,4(c@1,2 c@2,3) b@4,6)", false},
		{"one ends earlier", "r@0,6(a@1,3(c@1,2 c@2,3) x@3,3 b@4,5)", false},
		{"the root ends later", "r@0,7(a@1,3(c@1,2 c@2,3) x@3,3 b@4,6)", false},
		{"the root begins later", "r@1,6(a@1,3(c@1,2 c@2,3) x@3,3 b@4,6)", false},
		{"two grown together", "r@0,6(a@1,3(c@1,3) x@3,3 b@4,6)", false},
		{"one more around a leaf", "r@0,6(a@1,3(c@1,2 c@2,3(c@2,3)) x@3,3 b@4,6)", false},
		{"one less around leaves", "r@0,6(c@1,2 c@2,3 x@3,3 b@4,6)", false},
		{"one more in a gap", "r@0,6(a@1,3(c@1,2 c@2,3) x@3,4 b@4,6)", false},
	} {
		other := treeOf(c.other)
		if Alike(n, other, 7) != c.want || Alike(other, n, 7) != c.want {
			t.Errorf("%s: not %v", c.what, c.want)
		}
		holdAlike(t, n, other, 7)
		if got := Changed(n, other, nil, 7); (got == nil) != c.want {
			t.Errorf("%s: %v", c.what, got)
		}
	}
	none, empty := treeOf("r@0,0"), treeOf("s@3,3(x@3,3)")
	if !Alike(none, empty, 9) || Alike(none, n, 1) || !Alike(none, n, 0) {
		t.Error("trees without bytes")
	}
}

// P22.3, P22.4: Named, Field and Bad alone make no tree another one.
func TestOtherFields(t *testing.T) {
	n := treeOf("r@0,6(a@1,3(c@1,2 x@2,2 c@2,3) x@3,3 b@4,6)")
	for at := range sample.NodesOf(&n) {
		for i := range 5 {
			other := treeOf("r@0,6(a@1,3(c@1,2 x@2,2 c@2,3) x@3,3 b@4,6)")
			part := sample.NodesOf(&other)[at]
			switch i {
			case 0:
				part.Named = true
			case 1:
				part.Field = "f"
			case 2:
				part.Bad = api.BadError
			case 3:
				if part.From == part.To {
					part.Bad = api.BadMiss
				}
			case 4:
				part.Kids = append([]api.Node{}, part.Kids...)
			}
			if got := Changed(n, other, nil, 8); got != nil || !Alike(n, other, 8) || !Alike(other, n, 8) {
				t.Errorf("node %d, change %d: %v", at, i, got)
			}
		}
	}
}

// P22.3: in Changed the first tree is the one ahead of the edits.
func TestWhichIsAhead(t *testing.T) {
	a, b := treeOf("r@0,3(a@0,1 b@1,2 c@2,3)"), treeOf("r@0,2(a@0,1 c@1,2)")
	l := []api.Edit{{At: 1, Old: 1}}
	if got := Changed(a, b, l, 2); got != nil {
		t.Errorf("%v", got)
	}
	if got := rangeText(Changed(b, a, l, 3)); got != "1-3" {
		t.Errorf("%v", got)
	}
}
