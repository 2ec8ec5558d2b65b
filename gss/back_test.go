package gss

import (
	"math"
	"reflect"
	"slices"
	"testing"

	"bramble/api"
	"bramble/sample"
)

// P16.4: where links lead, and along which rows.
func TestBackAndPaths(t *testing.T) {
	const example = "0@0 1@1:0 2@1:0 3@2:1,2"
	const some = "0@0 1@0 2@1:0 3@1:0,1 4@2:2 5@2:2,3 6@3:0,4,5"
	for _, c := range []struct {
		what, stack string
		node, n     int
		back        []int
		paths       [][]int
	}{
		{"the chapter's, by 1", example, 3, 1, []int{1, 2}, [][]int{{3, 1}, {3, 2}}},
		{"the chapter's, by 2", example, 3, 2, []int{0}, [][]int{{3, 1, 0}, {3, 2, 0}}},
		{"the chapter's, by 3", example, 3, 3, nil, nil},
		{"the chapter's, by 0", example, 3, 0, []int{3}, [][]int{{3}}},
		{"a node without links, by 0", example, 0, 0, []int{0}, [][]int{{0}}},
		{"a node without links, by 1", example, 0, 1, nil, nil},
		{"a node without links, by 64", example, 0, 64, nil, nil},
		{"a node in the middle", example, 1, 1, []int{0}, [][]int{{1, 0}}},
		{"links that skip places", some, 6, 1, []int{0, 4, 5}, [][]int{{6, 0}, {6, 4}, {6, 5}}},
		{"rows that end early", some, 6, 2, []int{2, 3}, [][]int{{6, 4, 2}, {6, 5, 2}, {6, 5, 3}}},
		{"a node by several rows", some, 6, 3, []int{0, 1}, [][]int{{6, 4, 2, 0}, {6, 5, 2, 0}, {6, 5, 3, 0}, {6, 5, 3, 1}}},
		{"more links than there are", some, 6, 4, nil, nil},
		{"a node that links to itself, by 0", "0@0:0", 0, 0, []int{0}, [][]int{{0}}},
		{"a node that links to itself, by 1", "0@0:0", 0, 1, []int{0}, [][]int{{0, 0}}},
		{"a node that links to itself, by 64", "0@0:0", 0, 64, []int{0}, [][]int{make([]int, 65)}},
		{"a node that links to itself and another one", "0@0 1@0:0,1", 1, 3, []int{0, 1}, [][]int{{1, 1, 1, 0}, {1, 1, 1, 1}}},
		{"a node that links to itself and one that goes on", "0@0 1@0:0 2@0:1,2", 2, 3, []int{0, 1, 2}, [][]int{{2, 2, 1, 0}, {2, 2, 2, 1}, {2, 2, 2, 2}}},
		{"nodes that link to one another, by 1", "0@0:1 1@0:0", 0, 1, []int{1}, [][]int{{0, 1}}},
		{"nodes that link to one another, by 2", "0@0:1 1@0:0", 0, 2, []int{0}, [][]int{{0, 1, 0}}},
		{"nodes that link to one another, by 3", "0@0:1 1@0:0", 1, 3, []int{0}, [][]int{{1, 0, 1, 0}}},
		{"nodes that link to one another and themselves", "0@0:0,1 1@0:0,1", 1, 2, []int{0, 1}, [][]int{{1, 0, 0}, {1, 0, 1}, {1, 1, 0}, {1, 1, 1}}},
		{"a ring of three", "0@0:1 1@0:2 2@0:0", 0, 4, []int{1}, [][]int{{0, 1, 2, 0, 1}}},
		{"a link to a later node", "0@0:1,2 1@0 2@0:0", 0, 2, []int{0}, [][]int{{0, 2, 0}}},
		{"rows by their first node that differs", "0@0 1@0 2@1:0,1 3@1:0,1 4@2:2,3", 4, 2, []int{0, 1}, [][]int{{4, 2, 0}, {4, 2, 1}, {4, 3, 0}, {4, 3, 1}}},
		{"n below 0", some, 6, -1, nil, nil},
		{"n far below 0", some, 6, math.MinInt, nil, nil},
		{"n above 64", "0@0:0", 0, 65, nil, nil},
		{"n far above 64", "0@0:0", 0, math.MaxInt, nil, nil},
		{"a node behind the last one", some, 7, 1, nil, nil},
		{"a node behind the last one, by 0", some, 7, 0, nil, nil},
		{"a node below 0", some, -1, 1, nil, nil},
		{"a node below 0, by 0", some, -1, 0, nil, nil},
		{"a node far behind", some, math.MaxInt, 0, nil, nil},
		{"a node far below", some, math.MinInt, 0, nil, nil},
		{"no nodes", "", 0, 0, nil, nil},
		{"no nodes, none asked for", "", -1, -1, nil, nil},
	} {
		g := sample.StackOf(c.stack)
		if !Fit(g) {
			t.Fatalf("%s: the stack is not fit", c.what)
		}
		if got := Back(g, c.node, c.n); !slices.Equal(got, c.back) || !slices.Equal(backByWords(g, c.node, c.n), c.back) {
			t.Errorf("%s: Back: %v, not %v", c.what, got, c.back)
		}
		got, err := Paths(g, c.node, c.n)
		if err != api.OK || !sameRows(got, c.paths) || !sameRows(pathsByWords(g, c.node, c.n), c.paths) {
			t.Errorf("%s: Paths: %v, %v, not %v", c.what, got, err, c.paths)
		}
	}
}

func sameRows(a, b [][]int) bool {
	return slices.EqualFunc(a, b, func(x, y []int) bool { return slices.Equal(x, y) })
}

// holdBack fails where something else is told of a node than the chapter's words say.
func holdBack(t *testing.T, g api.Gss, node, n int) {
	t.Helper()
	want := pathsByWords(g, node, n)
	paths, err := Paths(g, node, n)
	if len(want) > 4000 {
		if err != api.ErrMany || paths != nil {
			t.Fatalf("%v: Paths of %d by %d: %d rows, %v", g, node, n, len(paths), err)
		}
	} else if err != api.OK || !sameRows(paths, want) {
		t.Fatalf("%v: Paths of %d by %d: %v, %v, not %v", g, node, n, paths, err, want)
	}
	back := Back(g, node, n)
	if !slices.Equal(back, backByWords(g, node, n)) {
		t.Fatalf("%v: Back of %d by %d: %v", g, node, n, back)
	}
	var ends []int
	for _, row := range want {
		ends = append(ends, row[len(row)-1])
	}
	slices.Sort(ends)
	if !slices.Equal(back, slices.Compact(ends)) {
		t.Fatalf("%v: Back of %d by %d is %v, the ends of Paths %v", g, node, n, back, ends)
	}
}

// P16.4, P16.7: every small stack, and drawn ones.
func TestBackOfEvery(t *testing.T) {
	for g := range sample.Stacks(3, 3, 2) {
		for node := -1; node <= len(g.Nodes); node++ {
			for n := -1; n <= 4; n++ {
				holdBack(t, g, node, n)
			}
		}
	}
	seed := sample.Seed(166)
	for range 2000 {
		g := sample.FitStack(&seed, 10, 4, 5)
		holdBack(t, g, seed.Below(12)-1, seed.Below(7)-1)
	}
}

// fan is a stack whose last node has links to so many, each of which has links to so many others, and so on.
func fan(widths ...int) api.Gss {
	var g api.Gss
	var below []int
	slices.Reverse(widths)
	for at, width := range append(widths, 1) {
		var here []int
		for state := range width {
			here = append(here, len(g.Nodes))
			g.Nodes = append(g.Nodes, api.Gnode{State: state, At: at, Links: slices.Clone(below)})
		}
		below = here
	}
	return g
}

// P16.4: just 4000 rows, and one more.
func TestPathsOfMany(t *testing.T) {
	ones := func(n int, widths ...int) []int { return append(slices.Repeat([]int{1}, n), widths...) }
	for _, c := range []struct {
		what   string
		widths []int
		want   int
	}{
		{"3999 side by side", []int{3999}, 3999},
		{"4000 side by side", []int{4000}, 4000},
		{"4001 side by side", []int{4001}, -1},
		{"4095 side by side", []int{4095}, -1},
		{"40 by 100", []int{40, 100}, 4000},
		{"100 by 40", []int{100, 40}, 4000},
		{"10 by 20 by 20", []int{10, 20, 20}, 4000},
		{"2 by 2000", []int{2, 2000}, 4000},
		{"2 by 2001", []int{2, 2001}, -1},
		{"4001 by 1", []int{4001, 1}, -1},
		{"4000 by 1", []int{4000, 1}, 4000},
		{"4000 by 1 by 1", []int{4000, 1, 1}, 4000},
		{"4001 by 1 by 1", []int{4001, 1, 1}, -1},
		{"63 by one, then 4000", ones(63, 4000), 4000},
		{"63 by one, then 4001", ones(63, 4001), -1},
		{"4000, then 63 by one", append([]int{4000}, ones(63)...), 4000},
		{"4001, then 63 by one", append([]int{4001}, ones(63)...), -1},
		{"2 by 2, 11 times", slices.Repeat([]int{2}, 11), 2048},
		{"2 by 2, 12 times", slices.Repeat([]int{2}, 12), -1},
		{"2 by 2, 64 times", slices.Repeat([]int{2}, 64), -1},
		{"60 by 60, 64 times", slices.Repeat([]int{60}, 64), -1},
	} {
		g := fan(slices.Clone(c.widths)...)
		last, n := len(g.Nodes)-1, len(c.widths)
		if !Fit(g) {
			t.Fatalf("%s: the stack is not fit", c.what)
		}
		paths, err := Paths(g, last, n)
		if c.want < 0 && (paths != nil || err != api.ErrMany) {
			t.Errorf("%s: %d rows, %v", c.what, len(paths), err)
		}
		if c.want >= 0 && (len(paths) != c.want || err != api.OK) {
			t.Errorf("%s: %d rows, %v", c.what, len(paths), err)
		}
		for i, row := range paths {
			if len(row) != n+1 || row[0] != last || i > 0 && slices.Compare(paths[i-1], row) >= 0 {
				t.Fatalf("%s: row %d: %v", c.what, i, row)
			}
		}
		if back := Back(g, last, n); len(back) != c.widths[n-1] || back[0] != 0 || back[len(back)-1] != len(back)-1 || !slices.IsSorted(back) {
			t.Errorf("%s: Back: %v", c.what, back)
		}
		if longer, err := Paths(g, last, n+1); longer != nil || err != api.OK || Back(g, last, n+1) != nil {
			t.Errorf("%s: by one more: %d rows, %v", c.what, len(longer), err)
		}
	}
}

// P16.4: rows that go round.
func TestPathsThatGoRound(t *testing.T) {
	both := sample.StackOf("0@0:0,1 1@0:0,1")
	away := sample.StackOf("0@0:0,1 1@0:1")
	ring := sample.StackOf("0@0:1 1@0:2 2@0:0")
	for n := range 65 {
		paths, err := Paths(both, 0, n)
		switch {
		case n < 12 && (len(paths) != 1<<n || err != api.OK), n >= 12 && (paths != nil || err != api.ErrMany):
			t.Errorf("by %d: %d rows, %v", n, len(paths), err)
		}
		if paths, err = Paths(away, 0, n); len(paths) != n+1 || err != api.OK {
			t.Errorf("by %d: %d rows, %v", n, len(paths), err)
		}
		for i, row := range paths {
			if want := append(make([]int, n+1-i), slices.Repeat([]int{1}, i)...); !slices.Equal(row, want) {
				t.Fatalf("by %d: row %d is %v", n, i, row)
			}
		}
		if paths, err = Paths(ring, 0, n); len(paths) != 1 || err != api.OK || paths[0][n] != n%3 {
			t.Errorf("by %d: %v, %v", n, paths, err)
		}
		if got := Back(ring, 1, n); !slices.Equal(got, []int{(n + 1) % 3}) {
			t.Errorf("by %d: %v", n, got)
		}
		want := []int{0, 1}
		if n == 0 {
			want = []int{0}
		}
		if !slices.Equal(Back(both, 0, n), want) || !slices.Equal(Back(away, 0, n), want) {
			t.Errorf("by %d: %v, %v", n, Back(both, 0, n), Back(away, 0, n))
		}
	}
	for _, g := range []api.Gss{both, away, ring} {
		for _, n := range []int{-1, 65} {
			if paths, err := Paths(g, 0, n); paths != nil || err != api.OK || Back(g, 0, n) != nil {
				t.Errorf("by %d: %v, %v", n, paths, err)
			}
		}
	}
}

// P16.4, 0.1: of rows that begin, and do not come to their end, there may be more than could ever be gone through.
func TestPathsThatEndEarly(t *testing.T) {
	for n := 40; n <= 64; n++ {
		g := fan(slices.Repeat([]int{3}, n-1)...)
		if paths, err := Paths(g, len(g.Nodes)-1, n); paths != nil || err != api.OK {
			t.Fatalf("by %d: %d rows, %v", n, len(paths), err)
		}
	}
	g := chainBeside(62)
	if !Fit(g) {
		t.Fatal("the stack is not fit")
	}
	paths, err := Paths(g, len(g.Nodes)-1, 64)
	if len(paths) != 1 || err != api.OK || len(paths[0]) != 65 {
		t.Fatalf("%d rows, %v", len(paths), err)
	}
	for i, row := range paths[0][1:] {
		if g.Nodes[row].State != 9 {
			t.Fatalf("node %d of the row is %v", i+1, g.Nodes[row])
		}
	}
	if back := Back(g, len(g.Nodes)-1, 64); !reflect.DeepEqual(back, []int{0}) {
		t.Errorf("Back: %v", back)
	}
}

// chainBeside is a stack of two states at each of some places, each with links to both of the place ahead, and beside them a chain that has two nodes more, the last one of which has links to all of the place ahead.
func chainBeside(places int) api.Gss {
	g := sample.StackOf("9@0 9@1:0")
	chain := 1
	var below []int
	for at := 2; at < 2+places; at++ {
		var here []int
		for _, state := range []int{1, 2} {
			here = append(here, len(g.Nodes))
			g.Nodes = append(g.Nodes, api.Gnode{State: state, At: at, Links: below})
		}
		g.Nodes = append(g.Nodes, api.Gnode{State: 9, At: at, Links: []int{chain}})
		chain = len(g.Nodes) - 1
		below = here
	}
	return api.Gss{Nodes: append(g.Nodes, api.Gnode{State: 5, At: 2 + places, Links: append(slices.Clone(below), chain)})}
}

// P16.4: a stack of 4096 nodes, and one of many links.
func TestBackOfMany(t *testing.T) {
	g := sample.StackOfMany(4096, 1, 1)
	for number := 1; number < 4096; number++ {
		g.Nodes[number].Links = []int{number - 1}
	}
	for _, n := range []int{0, 1, 63, 64} {
		paths, err := Paths(g, 4095, n)
		if back := Back(g, 4095, n); !slices.Equal(back, []int{4095 - n}) || err != api.OK || len(paths) != 1 || len(paths[0]) != n+1 || paths[0][n] != 4095-n {
			t.Errorf("by %d: %v, %d rows, %v", n, back, len(paths), err)
		}
	}
	if !slices.Equal(Back(g, 64, 64), []int{0}) || Back(g, 63, 64) != nil {
		t.Errorf("by 64: %v, %v", Back(g, 64, 64), Back(g, 63, 64))
	}
	all := make([]int, 1000)
	for i := range all {
		all[i] = i
	}
	g = sample.StackOfMany(1000, 1000, 1)
	for number := range g.Nodes {
		g.Nodes[number].Links = all
	}
	for _, n := range []int{1, 2, 64} {
		paths, err := Paths(g, 500, n)
		if !slices.Equal(Back(g, 500, n), all) || (err != api.OK) != (n > 1) || (len(paths) != 1000) != (n > 1) {
			t.Errorf("by %d: %d rows, %v", n, len(paths), err)
		}
	}
}
