package node

import (
	"math"
	"reflect"
	"strings"
	"testing"

	"bramble/api"
	"bramble/sample"
)

// A text can have as many tokens as bytes: a tree that has a leaf of each is told of, though it is not fit.
func TestMoreThanFit(t *testing.T) {
	n := side(api.MaxText)
	if all, deep := Count(n); all != api.MaxText+1 || deep != 2 || Fit(n, api.MaxText) {
		t.Errorf("%d nodes, %d within one another; Fit: %v", all, deep, Fit(n, api.MaxText))
	}
	if len(Leaves(n)) != api.MaxText || Print(n) != "(a"+strings.Repeat(" (b)", api.MaxText)+")" || Wrong(n) {
		t.Error("not all leaves are told")
	}
	if got, ok := Find(n, At(n, api.MaxText-1, api.MaxText)); !ok || got.To != api.MaxText || got.Kind != "b" {
		t.Errorf("the last byte: %v, %v", got, ok)
	}
	if !Same(Move(n, 5), moveByWords(n, 5)) {
		t.Error("not all is moved")
	}
	n = row(1 << 16)
	if all, deep := Count(n); all != 1<<16 || deep != 1<<16 || Fit(n, 4) {
		t.Errorf("%d nodes, %d within one another; Fit: %v", all, deep, Fit(n, 4))
	}
	if len(Print(n)) != 4<<16-1 || len(Leaves(n)) != 1 || len(At(n, 1, 2)) != 1<<16-1 || !Same(n, Move(n, 0)) {
		t.Error("not all is told of a row of nodes")
	}
}

// oddTrees is trees of which nothing is promised, and such as no text has.
func oddTrees() []api.Node {
	long := strings.Repeat("k", 1<<20)
	all := append(sample.EndlessTrees(), api.Node{}, of(long, 0, 0, in(long, of("", 0, 0))), of("a", 0, 4, make([]api.Node, 1<<20)...))
	far := []int{math.MinInt, -1, 0, 1, math.MaxInt}
	for _, from := range far {
		for _, to := range far {
			n := bad(from, of("a", from, to))
			all = append(all, n, of("a", to, from, n, bad(api.BadMiss, n)))
		}
	}
	return all
}

// 0.1: whatever a call is given, it ends.
func TestOdd(t *testing.T) {
	trees := oddTrees()
	far := []int{math.MinInt, -1, 0, 1, 4, math.MaxInt}
	for _, n := range trees {
		Print(n)
		Leaves(n)
		Count(n)
		Wrong(n)
		for _, from := range far {
			Fit(n, from)
			Move(n, from)
			for _, to := range far {
				At(n, from, to)
				Find(n, []int{from, to})
			}
		}
		Find(n, nil)
		Find(n, make([]int, 100000))
	}
	for i, n := range trees[:9] {
		for k, other := range trees[:9] {
			if Same(n, other) != Same(other, n) {
				t.Errorf("trees %d and %d are the same, and not the other way round", i, k)
			}
		}
	}
}

// Of a tree that has no end nothing is told.
func TestEndless(t *testing.T) {
	for i, n := range sample.EndlessTrees() {
		all, deep := Count(n)
		found, ok := Find(n, nil)
		if Fit(n, 4) || Same(n, n) || Print(n) != "" || Leaves(n) != nil || all != 0 || deep != 0 || Wrong(n) {
			t.Errorf("tree %d: something is told", i)
		}
		if ok || !reflect.DeepEqual(found, api.Node{}) || !reflect.DeepEqual(Move(n, 1), api.Node{}) {
			t.Errorf("tree %d: a tree is told", i)
		}
		if i < 3 && At(n, 0, 4) != nil {
			t.Errorf("tree %d holds itself, and a path has an end", i)
		}
	}
}
