package diff

import (
	"math"
	"slices"
	"strings"
	"testing"

	"bramble/api"
	"bramble/node"
	"bramble/sample"
)

// P22.1: the marks of each byte of a tree, and of those beside it.
func TestMarks(t *testing.T) {
	for _, c := range []struct {
		tree  string
		first int
		want  []string
	}{
		{"r@0,3", -1, []string{"", "r<", "r", "r>", "", ""}},
		{"r@2,4", 0, []string{"", "", "r<", "r>", "", ""}},
		{"r@2,3", 1, []string{"", "r<>", ""}},
		{"r@0,0", -1, []string{"", "", ""}},
		{"r@2,2", 1, []string{"", "", "", ""}},
		{"r@0,4(a@0,2 b@2,4)", -1, []string{"", "r< a<", "r a>", "r b<", "r> b>", ""}},
		{"r@0,3(a@0,1 b@1,2 c@2,3)", 0, []string{"r< a<>", "r b<>", "r> c<>", ""}},
		// Bytes that no kid covers: ahead of the first one, between two, behind the last one.
		{"r@0,6(a@1,2 b@3,5)", 0, []string{"r<", "r a<>", "r", "r b<", "r b>", "r>", ""}},
		{"r@0,7(a@1,6(b@2,3 c@4,5))", 0, []string{"r<", "r a<", "r a b<>", "r a", "r a c<>", "r a>", "r>", ""}},
		// Nodes without bytes: at the beginning, between others, at the end, and alone.
		{"r@0,2(x@0,0 a@0,1 x@1,1 b@1,2 x@2,2)", -1, []string{"", "r< a<>", "r> b<>", "", ""}},
		{"r@1,3(x@1,1 x@1,1 a@1,3(x@1,1 b@2,3(x@2,2 x@3,3) x@3,3) x@3,3 x@3,3)", 0, []string{"", "r< a<", "r> a> b<>", ""}},
		{"r@0,3(x@0,0 x@1,1 x@2,2 x@3,3)", 0, []string{"r<", "r", "r>", ""}},
		{"r@0,4(a@0,1 x@2,2 b@3,4)", 0, []string{"r< a<>", "r", "r", "r> b<>"}},
		{"r@2,2(x@2,2 x@2,2(y@2,2))", 1, []string{"", "", ""}},
		// Nodes within one another over the same bytes.
		{"r@0,2(a@0,2(b@0,2(c@0,2)))", 0, []string{"r< a< b< c<", "r> a> b> c>", ""}},
		{"r@0,3(r@0,3(r@0,2(r@1,2) r@2,3))", 0, []string{"r< r< r<", "r r r> r<>", "r> r> r<>", ""}},
		{"r@5,9(a@5,8(b@5,7(c@5,6)))", 4, []string{"", "r< a< b< c<>", "r a b>", "r a>", "r>", ""}},
		{"r@5,9(a@6,9(b@7,9(c@8,9)))", 4, []string{"", "r<", "r a<", "r a b<", "r> a> b> c<>", ""}},
	} {
		n := treeOf(c.tree)
		for i, want := range c.want {
			if got := Marks(n, c.first+i); textOf(got) != want || textOf(marksByWords(n, c.first+i)) != want || want == "" && got != nil {
				t.Errorf("byte %d of %s: %v, not %s", c.first+i, c.tree, got, want)
			}
		}
	}
}

// P22.1: no byte far away is covered.
func TestMarksFarAway(t *testing.T) {
	for _, n := range []api.Node{treeOf("r@0,0"), treeOf("r@0,4(a@0,2 b@2,4)"), treeOf("r@1,2"), {Kind: "r", To: api.MaxText}} {
		for _, at := range []int{-1, -2, -1 << 32, 1 - 1<<32, math.MinInt, math.MinInt + 1, math.MinInt + 2, api.MaxText, api.MaxText + 1, 1 << 32, 1<<32 + 1, math.MaxInt - 1, math.MaxInt} {
			if got := Marks(n, at); got != nil {
				t.Errorf("byte %d of %v: %v", at, n, got)
			}
		}
	}
}

// P22.1: Named, Field and Bad play no part, nor what a Kind is.
func TestMarksOfKinds(t *testing.T) {
	kid := api.Node{Kind: "\"+\"", Field: "f", Bad: api.BadError, From: 1, To: 2}
	n := api.Node{Kind: "é\x00\xff", Named: true, To: 2, Kids: []api.Node{{Kind: "m", Bad: api.BadMiss}, kid, {Kind: "m", Bad: api.BadMiss, From: 2, To: 2}}}
	if got := textOf(Marks(n, 1)); got != "é\x00\xff> \"+\"<>" {
		t.Errorf("%q", got)
	}
	long := strings.Repeat("k", 80)
	if got := Marks(api.Node{Kind: long, To: 1}, 0); !slices.Equal(got, []api.Mark{{Kind: long, First: true, Last: true}}) {
		t.Errorf("%v", got)
	}
}

// P22.1: each byte of the greatest trees that are fit, and of one as long as texts are.
func TestMarksOfGreatest(t *testing.T) {
	deep := api.Node{Kind: "a", From: 31, To: 32}
	for i := range 31 {
		deep = api.Node{Kind: "a", From: 30 - i, To: 33 + i, Kids: []api.Node{deep}}
	}
	broad := api.Node{Kind: "r", To: 4999}
	for i := range 4999 {
		broad.Kids = append(broad.Kids, api.Node{Kind: "a", From: i, To: i + 1})
	}
	empty := api.Node{Kind: "r", To: 2, Kids: slices.Repeat([]api.Node{{Kind: "x", From: 1, To: 1}}, 4998)}
	empty.Kids = append(empty.Kids, api.Node{Kind: "b", From: 1, To: 2})
	long := api.Node{Kind: "r", To: api.MaxText, Kids: []api.Node{{Kind: "a", To: api.MaxText - 1}, {Kind: "b", From: api.MaxText - 1, To: api.MaxText}}}
	for i, n := range []api.Node{deep, broad, empty, long} {
		if !node.Fit(n, api.MaxText) {
			t.Fatalf("tree %d is not fit", i)
		}
		for at := -1; at <= n.To; at += max(1, n.To/700) {
			holdMarks(t, n, at)
		}
		holdMarks(t, n, n.To-2)
		holdMarks(t, n, n.To-1)
		holdMarks(t, n, n.To)
	}
	if got := Marks(deep, 31); len(got) != 32 || !got[31].First || !got[31].Last || got[30].First || got[30].Last {
		t.Errorf("%v", got)
	}
	if got := textOf(Marks(long, api.MaxText-1)); got != "r> b<>" {
		t.Errorf("%s", got)
	}
}

// P22.1: every fit tree of at most 4 nodes, of at most 3 bytes, with each byte and those beside.
func TestMarksOfEverySmallTree(t *testing.T) {
	for nodes := range 5 {
		for _, n := range sample.FitTrees(nodes, 0, 3, "a", "b") {
			for at := -1; at <= 4; at++ {
				holdMarks(t, n, at)
			}
		}
	}
}

// P22.1: drawn trees.
func TestMarksOfDrawn(t *testing.T) {
	seed := sample.Seed(2201)
	most := 0
	for range 600 {
		from := seed.Below(4)
		n := sample.FitTree(&seed, from, from+seed.Below(30), 6)
		for at := -1; at <= 35; at++ {
			holdMarks(t, n, at)
			most = max(most, len(Marks(n, at)))
		}
	}
	if most < 6 {
		t.Errorf("no byte has more than %d marks", most)
	}
}
