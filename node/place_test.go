package node

import (
	"math"
	"reflect"
	"slices"
	"testing"

	"bramble/api"
)

// P14.4: the least node, by its path.
func TestAt(t *testing.T) {
	n := of("r", 2, 12,
		of("a", 2, 6, of("b", 2, 4), of("b", 4, 4), of("b", 4, 6, of("c", 4, 6))),
		of("a", 6, 6),
		of("a", 6, 10, of("b", 7, 9)))
	twice := of("r", 0, 4, of("a", 1, 3, of("b", 1, 2)), of("a", 1, 3, of("b", 1, 3)), of("a", 0, 4))
	back := of("r", 5, 3, of("a", 4, 4))
	for _, c := range []struct {
		what     string
		n        api.Node
		from, to int
		want     []int
	}{
		{"all of it", n, 2, 12, nil},
		{"ahead of it", n, 1, 12, nil},
		{"behind it", n, 2, 13, nil},
		{"far ahead and behind", n, 0, 20, nil},
		{"ahead of it alone", n, 0, 1, nil},
		{"one of the kids", n, 2, 6, []int{0}},
		{"a part of it that none of its kids has", n, 3, 5, []int{0}},
		{"a kid's kid", n, 2, 4, []int{0, 0}},
		{"a byte of it", n, 3, 4, []int{0, 0}},
		{"the deepest one", n, 5, 6, []int{0, 2, 0}},
		{"no byte, at the beginning", n, 2, 2, []int{0, 0}},
		{"no byte, where two end and begin: the first", n, 4, 4, []int{0, 0}},
		{"no byte, where three do: the first", n, 6, 6, []int{0, 2, 0}},
		{"over the border of two", n, 5, 7, nil},
		{"a byte behind the border", n, 6, 7, []int{2}},
		{"a byte that only the parent has", n, 9, 10, []int{2}},
		{"a byte that only the root has", n, 10, 11, nil},
		{"the last one", n, 8, 9, []int{2, 0}},
		{"from above to", n, 6, 4, []int{0, 0}},
		{"from above to, by one kid's To and another one's From", n, 9, 3, []int{0, 0}},
		{"from far above to", n, math.MaxInt, math.MinInt, []int{0, 0}},
		{"from below all", n, math.MinInt, 4, nil},
		{"to above all", n, 4, math.MaxInt, nil},
		{"both below 0", n, -3, -2, nil},
		{"both beyond the text", n, 100, 101, nil},
		{"from beyond the text alone", n, 100, 9, []int{2, 0}},
		{"two kids have them: the first, though the other is deeper", twice, 2, 3, []int{0}},
		{"two kids have them, and a kid of the first", twice, 1, 2, []int{0, 0}},
		{"only the last kid has them", twice, 0, 2, []int{2}},
		{"a node that goes back has nothing of itself", back, 4, 4, nil},
		{"a node that goes back, asked back", back, 5, 3, []int{0}},
		{"the zero node", api.Node{}, 0, 0, nil},
	} {
		if got := At(c.n, c.from, c.to); !slices.Equal(got, c.want) || !slices.Equal(atByWords(c.n, c.from, c.to), c.want) {
			t.Errorf("%s: %v, not %v", c.what, got, c.want)
		}
		holdLeast(t, c.n, c.from, c.to)
	}
}

// P14.4: a path as long as the tree is deep, and the last of many kids.
func TestAtOfGreatest(t *testing.T) {
	if got := At(row(5000), 1, 3); !slices.Equal(got, make([]int, 4999)) {
		t.Errorf("a path of %d", len(got))
	}
	if got := At(side(4999), 4998, 4999); !slices.Equal(got, []int{4998}) {
		t.Errorf("%v", got)
	}
}

// P14.4: the node to which places lead.
func TestFind(t *testing.T) {
	c := bad(api.BadError, in("f", bare(of("c", 4, 6))))
	b := of("b", 4, 6, c)
	a := of("a", 2, 6, of("b", 2, 4), b)
	n := of("r", 0, 9, of("x", 0, 2), a)
	for _, x := range []struct {
		path []int
		want api.Node
		ok   bool
	}{
		{nil, n, true},
		{[]int{}, n, true},
		{[]int{0}, of("x", 0, 2), true},
		{[]int{1}, a, true},
		{[]int{1, 1}, b, true},
		{[]int{1, 1, 0}, c, true},
		{[]int{2}, api.Node{}, false},
		{[]int{-1}, api.Node{}, false},
		{[]int{math.MinInt}, api.Node{}, false},
		{[]int{math.MaxInt}, api.Node{}, false},
		{[]int{1 << 32}, api.Node{}, false},
		{[]int{1, 2}, api.Node{}, false},
		{[]int{1, -1}, api.Node{}, false},
		{[]int{0, 0}, api.Node{}, false},
		{[]int{2, 0}, api.Node{}, false},
		{[]int{-1, 0}, api.Node{}, false},
		{[]int{1, 1, 1}, api.Node{}, false},
		{[]int{1, 1, 0, 0}, api.Node{}, false},
		{[]int{1, 1, 0, -1}, api.Node{}, false},
		{make([]int, 100000), api.Node{}, false},
	} {
		got, ok := Find(n, x.path)
		if ok != x.ok || !reflect.DeepEqual(got, x.want) {
			t.Errorf("%.20v: %v, %v, not %v, %v", x.path, got, ok, x.want, x.ok)
		}
	}
}

// P14.4: one path more than the tree is deep leads nowhere.
func TestFindOfGreatest(t *testing.T) {
	n := row(5000)
	if got, ok := Find(n, make([]int, 4999)); !ok || !reflect.DeepEqual(got, of("a", 0, 4)) {
		t.Errorf("the deepest node: %v, %v", got, ok)
	}
	if got, ok := Find(n, make([]int, 5000)); ok || !reflect.DeepEqual(got, api.Node{}) {
		t.Errorf("one deeper: %v, %v", got, ok)
	}
	if got, ok := Find(n, nil); !ok || !isSame(got, n) {
		t.Errorf("the root: %v", ok)
	}
	if got, ok := Find(side(4999), []int{4998}); !ok || !reflect.DeepEqual(got, of("b", 4998, 4999)) {
		t.Errorf("the last kid: %v, %v", got, ok)
	}
	if _, ok := Find(side(4999), []int{4999}); ok {
		t.Error("there is no kid behind the last one")
	}
}

// P14.5: nothing but From and To is another one, and numbers go round.
func TestMove(t *testing.T) {
	made := func(from, to int) api.Node {
		kid := bad(api.BadMiss, in("f", bare(of("k", to, from, of("l", from, from)))))
		return bad(api.BadError, in("g", of("r", from, to, kid, of("m", to, to))))
	}
	for _, c := range []struct{ from, to, by, wantFrom, wantTo int }{
		{1, 5, 0, 1, 5},
		{1, 5, 3, 4, 8},
		{1, 5, -1, 0, 4},
		{1, 5, -3, -2, 2},
		{-4, -2, 3, -1, 1},
		{0, math.MaxInt, 1, 1, math.MinInt},
		{math.MaxInt - 1, math.MaxInt, 2, math.MinInt, math.MinInt + 1},
		{math.MinInt, 0, -1, math.MaxInt, -1},
		{math.MinInt, math.MaxInt, math.MinInt, 0, -1},
		{math.MinInt, math.MinInt + 5, math.MaxInt, -1, 4},
		{math.MaxInt, 7, math.MaxInt, -2, math.MinInt + 6},
	} {
		n, want := made(c.from, c.to), made(c.wantFrom, c.wantTo)
		if got := Move(n, c.by); !reflect.DeepEqual(got, want) || !reflect.DeepEqual(moveByWords(n, c.by), want) {
			t.Errorf("%v by %d: %v, not %v", n, c.by, got, want)
		}
		holdThereAndBack(t, n, c.by)
	}
	if got := Move(api.Node{Kids: []api.Node{{Kids: []api.Node{}}}}, 2); !reflect.DeepEqual(got, api.Node{From: 2, To: 2, Kids: []api.Node{{From: 2, To: 2}}}) {
		t.Errorf("an empty list is none: %#v", got)
	}
}

// P14.5: 5000 nodes, each of them moved.
func TestMoveOfGreatest(t *testing.T) {
	for _, n := range []api.Node{row(5000), side(4999)} {
		for _, by := range []int{1, -7, math.MaxInt, math.MinInt} {
			if got := Move(n, by); !isSame(got, moveByWords(n, by)) {
				t.Errorf("not all is moved by %d", by)
			}
			holdThereAndBack(t, n, by)
		}
	}
}
