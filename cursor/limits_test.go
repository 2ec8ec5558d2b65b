package cursor

import (
	"math"
	"slices"
	"strings"
	"testing"

	"bramble/api"
	"bramble/sample"
)

// A text can have as many tokens as bytes: a tree that has a leaf of each is told of, though it is not fit.
func TestMoreThanFit(t *testing.T) {
	n := side(api.MaxText)
	all := All(n)
	if len(all) != api.MaxText+1 || !slices.Equal(all[api.MaxText], []int{api.MaxText - 1}) {
		t.Errorf("%d paths", len(all))
	}
	if left, ok := Left(n, all[api.MaxText]); !ok || !slices.Equal(left, all[api.MaxText-1]) {
		t.Errorf("%v, %v", left, ok)
	}
	n = row(1 << 16)
	path := make([]int, 1<<16-1)
	if up, ok := Up(n, path); !ok || len(up) != 1<<16-2 {
		t.Errorf("a path of %d, %v", len(up), ok)
	}
	if next, ok := Next(n, path[1:]); !ok || !slices.Equal(next, path) {
		t.Errorf("a path of %d, %v", len(next), ok)
	}
	if next, ok := Next(n, path); ok || next != nil {
		t.Errorf("a path of %d behind the last one", len(next))
	}
}

// 0.1: whatever a call is given, it ends; of a tree whose paths no memory can hold All tells none.
func TestOdd(t *testing.T) {
	trees := append(sample.EndlessTrees(), row(1<<16), row(1<<17), side(1<<21))
	for i, n := range trees {
		if All(n) != nil {
			t.Errorf("tree %d: all paths are told", i)
		}
	}
	trees = append(trees, api.Node{}, row(1), side(1<<20))
	far := []int{math.MinInt, -1, 0, 1, 2999, math.MaxInt}
	long := [][]int{nil, {}, make([]int, 1<<20), slices.Repeat([]int{1}, 1<<20), slices.Repeat([]int{2999}, 1<<20), slices.Repeat([]int{-1}, 1<<20), slices.Repeat([]int{math.MaxInt}, 1<<20)}
	for _, path := range append(sample.Rows(far, 2), long...) {
		for _, n := range trees {
			moves(n, path)
			for _, name := range []string{"", "f", strings.Repeat("f", 1<<16)} {
				Field(n, path, name)
			}
		}
		for _, other := range long {
			Order(path, other)
		}
	}
}
