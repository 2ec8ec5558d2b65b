package diff

import (
	"math"
	"slices"
	"strings"
	"testing"

	"bramble/api"
	"bramble/sample"
)

// row is so many nodes within one another, all over the same bytes.
func row(nodes, bytes int) api.Node {
	n := api.Node{Kind: "a", To: bytes}
	for range nodes - 1 {
		n = api.Node{Kind: "a", To: bytes, Kids: []api.Node{n}}
	}
	return n
}

// leaves is a node with a leaf of each byte.
func leaves(bytes int) api.Node {
	n := api.Node{Kind: "r", To: bytes}
	for at := range bytes {
		n.Kids = append(n.Kids, api.Node{Kind: "a", From: at, To: at + 1})
	}
	return n
}

// A text can have as many tokens as bytes: a tree that has a leaf of each is told of, though it is not fit.
func TestMoreThanFit(t *testing.T) {
	a, b := leaves(api.MaxText), leaves(api.MaxText)
	last := api.MaxText - 1
	if got := textOf(Marks(a, last)); got != "r> a<>" {
		t.Errorf("%s", got)
	}
	if got := Changed(a, b, nil, api.MaxText); got != nil || !Alike(a, b, api.MaxText) {
		t.Errorf("%v", got)
	}
	b.Kids[last].Kind, b.Kids[9].Kind = "b", "b"
	if got := rangeText(Changed(a, b, nil, api.MaxText)); got != "9-10 65535-65536" || Alike(a, b, api.MaxText) {
		t.Errorf("%s", got)
	}
	a.Kids = slices.Delete(a.Kids, 1, 2)
	for i := range a.Kids[1:] {
		a.Kids[i+1].From, a.Kids[i+1].To = i+1, i+2
	}
	a.To--
	if got := Changed(leaves(api.MaxText), a, []api.Edit{{At: 1, Old: 1}}, a.To); got != nil {
		t.Errorf("a leaf taken out: %v", got)
	}
}

// Trees that lie deeper than those that are fit are told of, up to the depth that the document speaks of.
func TestDeep(t *testing.T) {
	n := row(mostDeep, 3)
	if got := Marks(n, 1); len(got) != 1<<16 || got[1<<16-1] != (api.Mark{Kind: "a"}) {
		t.Errorf("%d marks", len(got))
	}
	other := row(mostDeep-1, 3)
	if got := Changed(n, n, nil, 4); got != nil || !Alike(n, n, 4) || Alike(n, other, 4) || Alike(other, n, 4) {
		t.Errorf("%v", got)
	}
	if got := rangeText(Changed(other, n, nil, 4)); got != "0-3" {
		t.Errorf("%s", got)
	}
	deeper := row(mostDeep+1, 3)
	for i, got := range [][]api.Range{Changed(deeper, deeper, nil, 4), Changed(n, deeper, nil, 4), Changed(deeper, n, nil, 4), Changed(deeper, other, []api.Edit{{Text: "x"}}, 4)} {
		if got != nil {
			t.Errorf("%d: %v of a tree that has no end", i, got)
		}
	}
	if got := Marks(deeper, 1); got != nil || Alike(deeper, deeper, 4) || Alike(n, deeper, 4) || Alike(deeper, n, 4) {
		t.Errorf("%d marks of a tree that has no end", len(got))
	}
}

// oddTrees is trees that have no end, or are not fit.
func oddTrees() []api.Node {
	trees := append(sample.EndlessTrees(), api.Node{}, api.Node{From: math.MinInt, To: math.MaxInt}, row(100, api.MaxText), leaves(api.MaxText))
	back := api.Node{Kind: "a", From: 4, Kids: []api.Node{{From: 9, To: 2}, {From: 3, To: 8}}}
	far := api.Node{To: math.MaxInt, Kids: []api.Node{{From: math.MaxInt, To: math.MinInt}, {From: -9, To: 3}, {From: 1, To: math.MaxInt}}}
	loop := make([]api.Node, 2)
	for i := range loop {
		loop[i] = api.Node{Kind: "a", From: i * api.MaxText, To: (i + 1) * api.MaxText, Kids: loop}
	}
	seed := sample.Seed(2209)
	for range 20 {
		trees = append(trees, sample.AnyTree(&seed, 20))
	}
	return append(trees, back, far, loop[0], loop[1])
}

// 0.1: whatever a call is given, it ends.
func TestOdd(t *testing.T) {
	trees := oddTrees()
	far := []int{math.MinInt, -1, 0, 1, 3, math.MaxInt}
	rows := [][]api.Edit{nil, {{At: 1, Old: math.MaxInt}}, {{At: -1}}, {{Old: 3, Text: strings.Repeat("x", 1<<20)}}, slices.Repeat([]api.Edit{{At: 2, Text: "x"}}, 100)}
	for i, a := range trees {
		for _, at := range far {
			Marks(a, at)
		}
		for _, b := range []api.Node{a, trees[(i+1)%len(trees)], trees[(i+5)%len(trees)]} {
			for _, size := range far {
				Alike(a, b, size)
				for _, l := range rows {
					if told := Changed(a, b, l, size); len(told) > api.MaxText {
						t.Errorf("%d ranges", len(told))
					}
				}
			}
		}
	}
	for _, at := range far {
		From(slices.Repeat([]api.Edit{{At: 1, Old: math.MaxInt, Text: "x"}}, 1<<20), at)
	}
}
