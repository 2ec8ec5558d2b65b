package sets

import (
	"math"
	"slices"
	"testing"

	"bramble/sample"
)

// P10.4.
func TestAhead(t *testing.T) {
	// The terminals x, y, z, w are 0 to 3; e (4) can be empty or begin with z, n (5) is nothing only, m (6) begins with y and x, d (7) derives no row and begins with nothing, u (8) derives none and begins with w, s (9) can be empty by others, or begin with w, y and z.
	f := plain(t, "x y z w", "e n m d u s", "e ->; e -> z; n ->; m -> y; m -> n x; d -> d; u -> w d; s -> e n; s -> w; s -> e y")
	for _, c := range []struct {
		what   string
		l      []int
		behind []int
		want   []int
	}{
		{"no items, nothing behind", nil, nil, nil},
		{"no items", nil, []int{2}, []int{2}},
		{"no items, the end", nil, []int{4}, []int{4}},
		{"a terminal", []int{1}, []int{0, 4}, []int{1}},
		{"a terminal, nothing behind", []int{1}, nil, []int{1}},
		{"a terminal ahead of others", []int{1, 0, 2}, []int{3}, []int{1}},
		{"a terminal ahead of what can be empty", []int{1, 4, 5, 9}, []int{3}, []int{1}},
		{"one that can be empty", []int{4}, []int{0, 4}, []int{0, 2, 4}},
		{"one that can be empty, nothing behind", []int{4}, nil, []int{2}},
		{"one that is nothing only", []int{5}, []int{3, 4}, []int{3, 4}},
		{"one that is nothing only, nothing behind", []int{5}, nil, nil},
		{"all can be empty", []int{4, 5, 9}, []int{0}, []int{0, 1, 2, 3}},
		{"all can be empty, nothing behind", []int{5, 9, 4, 4}, nil, []int{1, 2, 3}},
		{"one that can't be empty", []int{6}, []int{2, 3, 4}, []int{0, 1}},
		{"one that can't be empty at the end", []int{4, 5, 6}, []int{3}, []int{0, 1, 2}},
		{"one that can't be empty in the middle", []int{4, 6, 9}, []int{3, 4}, []int{0, 1, 2}},
		{"one that can't be empty at the beginning", []int{6, 4, 9}, []int{3}, []int{0, 1}},
		{"one that begins with nothing", []int{7, 0}, []int{1}, nil},
		{"one that begins with nothing, behind one that can be empty", []int{4, 7, 0}, []int{1}, []int{2}},
		{"one that derives none", []int{8, 0}, []int{1}, []int{3}},
		{"the same item again and again", []int{4, 4, 4, 4}, []int{2, 2}, []int{2}},
		{"symbols below 0", []int{-1}, []int{3}, []int{3}},
		{"symbols behind the last", []int{10, 11}, []int{3}, []int{3}},
		{"symbols that are none, ahead of a terminal", []int{-1, 10, 1}, []int{3}, []int{1}},
		{"symbols that are none, behind what can be empty", []int{4, -7, 99}, []int{3}, []int{2, 3}},
		{"symbols that are none, in between", []int{4, -1, 5, 10, 6, -1, 3}, []int{3}, []int{0, 1, 2}},
		{"symbols far off", []int{math.MinInt, math.MaxInt, 4, math.MaxInt32, math.MinInt32}, []int{3}, []int{2, 3}},
		{"behind, not rising", nil, []int{3, 0, 2, 1}, []int{0, 1, 2, 3}},
		{"behind, twice", nil, []int{1, 3, 1, 3, 3}, []int{1, 3}},
		{"behind, what begins, too", []int{9}, []int{4, 2, 1}, []int{1, 2, 3, 4}},
		{"behind, below 0", []int{4}, []int{-1, -5, 0}, []int{-5, -1, 0, 2}},
		{"behind, beyond the end", []int{4}, []int{5, 600, 64, 128}, []int{2, 5, 64, 128, 600}},
		{"behind, far off", []int{4}, []int{math.MaxInt, math.MinInt, 1}, []int{math.MinInt, 1, 2, math.MaxInt}},
		{"behind, that plays no part", []int{4, 3}, []int{math.MaxInt, math.MinInt, 1, 1}, []int{2, 3}},
	} {
		if got := Ahead(f, sample.Items(c.l...), c.behind); !slices.Equal(got, c.want) {
			t.Errorf("%s: %v, not %v", c.what, got, c.want)
		}
	}
}

func TestAheadWithoutTerminals(t *testing.T) {
	f := plain(t, "", "a b", "a ->; a -> b; b -> b")
	for _, c := range []struct {
		l      []int
		behind []int
		want   []int
	}{
		{nil, nil, nil},
		{nil, []int{0}, []int{0}},
		{[]int{0}, []int{0}, []int{0}},
		{[]int{0, 0}, []int{7, -7, 0, 7}, []int{-7, 0, 7}},
		{[]int{1}, []int{0}, nil},
		{[]int{0, 1}, []int{0}, nil},
		{[]int{2, -1}, []int{0}, []int{0}},
	} {
		if got := Ahead(f, sample.Items(c.l...), c.behind); !slices.Equal(got, c.want) {
			t.Errorf("%v, behind %v: %v, not %v", c.l, c.behind, got, c.want)
		}
	}
	f = plain(t, "", "a", "")
	if got := Ahead(f, sample.Items(0), []int{3}); len(got) != 0 {
		t.Errorf("without productions: %v", got)
	}
	if got := Ahead(f, nil, []int{3, 1}); !slices.Equal(got, []int{1, 3}) {
		t.Errorf("without productions, of no items: %v", got)
	}
}

// Of a row that is as long as none of a production, each item counts.
func TestAheadOfManyItems(t *testing.T) {
	f := plain(t, "x y", "e n", "e ->; e -> y; n ->")
	for _, many := range []int{63, 64, 65, 1000, 100000} {
		l := slices.Repeat(sample.Items(3, -1, 9), many)
		if got := Ahead(f, l, []int{2}); !slices.Equal(got, []int{2}) {
			t.Errorf("%d of nothing: %v", len(l), got)
		}
		if got := Ahead(f, append(l, sample.Items(2)...), []int{2}); !slices.Equal(got, []int{1, 2}) {
			t.Errorf("%d of nothing, and one: %v", len(l), got)
		}
		if got := Ahead(f, append(l, sample.Items(2, 0)...), []int{2}); !slices.Equal(got, []int{0, 1}) {
			t.Errorf("%d of nothing, and two: %v", len(l), got)
		}
		numbers := make([]int, many)
		for i := range numbers {
			numbers[i] = many - i
		}
		if got := Ahead(f, sample.Items(2), numbers); len(got) != many || got[0] != 1 || got[many-1] != many || !slices.IsSorted(got) {
			t.Errorf("%d numbers behind: %v", many, got)
		}
	}
}
