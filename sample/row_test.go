package sample

import (
	"fmt"
	"slices"
	"testing"
)

func TestRowOf(t *testing.T) {
	f := FlatOf("x + y", "a", "a -> x")
	if got := RowOf(f, " y  + x -1 3 z + "); !slices.Equal(got, []int{2, 1, 0, -1, 3, -9, 1}) {
		t.Errorf("%v", got)
	}
	if got := RowOf(f, " "); got != nil {
		t.Errorf("%v of none", got)
	}
}

func TestRows(t *testing.T) {
	all := Rows([]int{4, -1}, 2)
	want := [][]int{nil, {4}, {-1}, {4, 4}, {4, -1}, {-1, 4}, {-1, -1}}
	if !slices.EqualFunc(all, want, slices.Equal[[]int]) {
		t.Errorf("%v", all)
	}
	for i, l := range all {
		_ = append(l, 77)
		for k := range l {
			l[k] = 10*i + k
		}
	}
	for i, l := range all {
		for k := range l {
			if l[k] != 10*i+k {
				t.Errorf("row %d shares memory with another one", i)
			}
		}
	}
	if got := Rows([]int{1, 2, 3}, 0); len(got) != 1 || len(got[0]) != 0 {
		t.Errorf("%v", got)
	}
	if got := Rows([]int{1, 2, 3}, 4); len(got) != 1+3+9+27+81 {
		t.Errorf("%d rows", len(got))
	}
}

func TestRow(t *testing.T) {
	f := Symbols(3, 1)
	a, b := Seed(5), Seed(5)
	lengths, terms := make([]int, 5), make([]int, 3)
	for range 200 {
		l := Row(&a, f, 4)
		if fmt.Sprint(l) != fmt.Sprint(Row(&b, f, 4)) {
			t.Fatal("a seed tells other rows")
		}
		lengths[len(l)]++
		for _, term := range l {
			terms[term]++
		}
	}
	if slices.Contains(lengths, 0) || slices.Contains(terms, 0) {
		t.Errorf("so many terminals so often: %v; each so often: %v", lengths, terms)
	}
}
