package cursor

import (
	"math"
	"slices"
	"strconv"
	"strings"
	"testing"

	"bramble/api"
	"bramble/sample"
)

// treeOf is a tree as sample.TreeOf reads it, with a Field ahead of a Kind, as in "r(left:a b)".
func treeOf(s string) api.Node {
	n := sample.TreeOf(s)
	for _, part := range sample.NodesOf(&n) {
		if field, kind, ok := strings.Cut(part.Kind, ":"); ok {
			part.Field, part.Kind = field, kind
		}
	}
	return n
}

// textOf is a path as "0 1", the root's as "", and none as "-".
func textOf(path []int, ok bool) string {
	if !ok && path == nil {
		return "-"
	}
	if !ok {
		return "false with a path"
	}
	words := make([]string, len(path))
	for i, place := range path {
		words[i] = strconv.Itoa(place)
	}
	return strings.Join(words, " ")
}

// pathOf is a path by such a text.
func pathOf(s string) []int {
	var path []int
	for word := range strings.FieldsSeq(s) {
		place, err := strconv.Atoi(word)
		if err != nil {
			panic(err)
		}
		path = append(path, place)
	}
	return path
}

// row is so many nodes, each within the one ahead.
func row(nodes int) api.Node {
	n := api.Node{Kind: "a"}
	for range nodes - 1 {
		n = api.Node{Kind: "a", Kids: []api.Node{n}}
	}
	return n
}

// side is a node with so many kids.
func side(kids int) api.Node {
	return api.Node{Kind: "a", Kids: slices.Repeat([]api.Node{{Kind: "b"}}, kids)}
}

// comb is a row of so many nodes that have each a node ahead of the next one, and one behind it.
func comb(teeth int) api.Node {
	n := api.Node{Kind: "a"}
	for range teeth {
		n = api.Node{Kind: "a", Kids: []api.Node{{Kind: "b"}, n, {Kind: "c"}}}
	}
	return n
}

// P21.1, P21.2: from each node of a tree.
func TestMoves(t *testing.T) {
	n := treeOf("r(a(c) b d(e(f g(h)) i) j)")
	all := allByWords(n)
	for _, c := range []struct{ path, down, up, right, left, next string }{
		{"", "0", "-", "-", "-", "0"},
		{"0", "0 0", "", "1", "-", "0 0"},
		{"0 0", "-", "0", "-", "-", "1"},
		{"1", "-", "", "2", "0", "2"},
		{"2", "2 0", "", "3", "1", "2 0"},
		{"2 0", "2 0 0", "2", "2 1", "-", "2 0 0"},
		{"2 0 0", "-", "2 0", "2 0 1", "-", "2 0 1"},
		{"2 0 1", "2 0 1 0", "2 0", "-", "2 0 0", "2 0 1 0"},
		{"2 0 1 0", "-", "2 0 1", "-", "-", "2 1"},
		{"2 1", "-", "2", "-", "2 0", "3"},
		{"3", "-", "", "-", "2", "-"},
	} {
		path := pathOf(c.path)
		for i, want := range []string{c.down, c.up, c.right, c.left, c.next} {
			got := moves(n, path)[i]
			if textOf(got.path, got.ok) != want {
				t.Errorf("%s of %q: %v, not %s", moveNames[i], c.path, got, want)
			}
		}
		holdMoves(t, n, all, path)
	}
}

// P21.1, P21.2: the root's path is an empty list, or none; what leads to the root is none.
func TestMovesOfRoot(t *testing.T) {
	one, two, list := treeOf("r"), treeOf("r(a b)"), api.Node{Kind: "r", Kids: []api.Node{}}
	for _, path := range [][]int{nil, {}, make([]int, 0, 4)} {
		for i, n := range []api.Node{one, list, {}} {
			if !tellsNothing(n, path) {
				t.Errorf("a tree of one node, %d: %v", i, moves(n, path))
			}
		}
		for i, want := range []string{"0", "-", "-", "-", "0"} {
			if got := moves(two, path)[i]; textOf(got.path, got.ok) != want {
				t.Errorf("%s of the root: %v, not %s", moveNames[i], got, want)
			}
		}
	}
	for _, path := range [][]int{{0}, {1}} {
		if up, ok := Up(two, path); !ok || up != nil {
			t.Errorf("Up of %v: %v, %v", path, up, ok)
		}
	}
}

// P21.2: behind the last kid, over one level, over several, and behind all.
func TestNextBehindLast(t *testing.T) {
	for _, c := range []struct{ tree, path, want string }{
		{"r(a b)", "0", "1"},
		{"r(a b)", "1", "-"},
		{"r(a(b c) d)", "0 1", "1"},
		{"r(a(b c(d)) e)", "0 1 0", "1"},
		{"r(a(b c(d(e f(g)))) h)", "0 1 0 1 0", "1"},
		{"r(a(b c(d(e f(g))) h))", "0 1 0 1 0", "0 2"},
		{"r(a(b c(d(e f(g)) h)))", "0 1 0 1 0", "0 1 1"},
		{"r(a(b c(d(e f(g)))))", "0 1 0 1 0", "-"},
		{"r(a(b(c)) d(e(f)) g)", "0 0 0", "1"},
		{"r(a(b(c)) d(e(f)) g)", "1 0 0", "2"},
		{"r(a b(c d(e f)))", "1 1 1", "-"},
		{"r(a b(c d(e f)))", "1 0", "1 1"},
		{"r(a b(c d(e f) g) h)", "1 1 1", "1 2"},
	} {
		if next, ok := Next(treeOf(c.tree), pathOf(c.path)); textOf(next, ok) != c.want {
			t.Errorf("%s, behind %q: %v, %v, not %s", c.tree, c.path, next, ok, c.want)
		}
	}
}

// P21.1: the first and the last of very many kids.
func TestMovesOfMany(t *testing.T) {
	n := api.Node{Kind: "r", Kids: []api.Node{side(2), side(4990)}}
	for _, c := range []struct{ path, right, left, next string }{
		{"1 0", "1 1", "-", "1 1"},
		{"1 2500", "1 2501", "1 2499", "1 2501"},
		{"1 4988", "1 4989", "1 4987", "1 4989"},
		{"1 4989", "-", "1 4988", "-"},
		{"1 4990", "-", "-", "-"},
		{"0 1", "-", "0 0", "1"},
		{"0 2", "-", "-", "-"},
	} {
		told := moves(n, pathOf(c.path))
		for i, want := range []string{c.right, c.left, c.next} {
			if got := told[2+i]; textOf(got.path, got.ok) != want {
				t.Errorf("%s of %q: %v, not %s", moveNames[2+i], c.path, got, want)
			}
		}
	}
}

// P21.1, P21.2: of a path that leads to no node nothing is told, whatever the name.
func TestMovesOfNoNode(t *testing.T) {
	n := treeOf("r(f:a(f:c) b f:d(e(f f:g(f:h)) i) j)")
	wrong := [][]int{
		{-1}, {4}, {5}, {math.MinInt}, {math.MinInt + 1}, {math.MaxInt}, {math.MaxInt - 1}, {1 << 32}, {1<<32 + 1}, {-1 << 32}, {-4},
		{0, -1}, {0, 1}, {1, 0}, {1, -1}, {2, 2}, {2, math.MaxInt}, {2, math.MinInt}, {2, 1 << 32}, {3, 0},
		{4, 0}, {-1, 0}, {math.MaxInt, 0}, {math.MinInt, 0}, {1 << 32, 0},
		{2, 0, -1}, {2, 0, 2}, {2, 0, math.MaxInt}, {2, 0, math.MinInt}, {2, 1, 0}, {2, 2, 0}, {2, -1, 0}, {2, -1, 1}, {3, 0, 0}, {-1, 0, 0}, {4, 0, 1}, {0, 0, 0},
		{2, 0, 1, 1}, {2, 0, 1, -1}, {2, 0, 2, 0}, {2, 0, -1, 0}, {2, 2, 1, 0}, {4, 0, 1, 0}, {2, 0, 0, 0},
		{2, 0, 1, 0, 0}, {2, 0, 1, 0, -1}, {2, 0, 1, 0, math.MaxInt}, {2, 0, 1, 1, 0},
		make([]int, 3), make([]int, 5000), make([]int, 100000), slices.Repeat([]int{-1}, 5000), slices.Repeat([]int{math.MaxInt}, 5000),
	}
	all := allByWords(n)
	for _, path := range wrong {
		if placeIn(all, path) >= 0 {
			t.Fatalf("%v leads to a node", path)
		}
		if !tellsNothing(n, path) {
			t.Errorf("%.20v: %v", path, moves(n, path))
		}
		for _, name := range []string{"", "f", "g"} {
			if told, ok := Field(n, path, name); ok || told != nil {
				t.Errorf("%.20v: Field %q: %v, %v", path, name, told, ok)
			}
		}
	}
	for _, path := range [][]int{{0}, {-1}, {math.MaxInt}, {0, 0}} {
		if !tellsNothing(api.Node{}, path) {
			t.Errorf("%v, of the zero node: %v", path, moves(api.Node{}, path))
		}
	}
}

// P21.1: the first kid with a name.
func TestField(t *testing.T) {
	n := treeOf("f:r(a f:b(g:c f:d(h:e)) g:f f:g(h:h) ff:k(f:x f:y))")
	for _, c := range []struct {
		path, name, want string
	}{
		{"", "f", "1"},
		{"", "g", "2"},
		{"", "", "0"},
		{"", "h", "-"},
		{"", "F", "-"},
		{"", "f ", "-"},
		{"", "ff", "4"},
		{"", "fff", "-"},
		{"", "a", "-"},
		{"", "\x00", "-"},
		{"", strings.Repeat("f", 100000), "-"},
		{"0", "f", "-"},
		{"0", "", "-"},
		{"1", "f", "1 1"},
		{"1", "g", "1 0"},
		{"1", "h", "-"},
		{"1", "", "-"},
		{"1 1", "h", "1 1 0"},
		{"1 1", "f", "-"},
		{"1 1 0", "h", "-"},
		{"2", "g", "-"},
		{"4", "f", "4 0"},
		{"4", "ff", "-"},
		{"4 1", "f", "-"},
		{"4 2", "f", "-"},
		{"9", "f", "-"},
	} {
		if got, ok := Field(n, pathOf(c.path), c.name); textOf(got, ok) != c.want {
			t.Errorf("Field %.20q of %q: %v, %v, not %s", c.name, c.path, got, ok, c.want)
		}
		holdFields(t, n, allByWords(n), pathOf(c.path), c.name)
	}
	odd := api.Node{Kids: []api.Node{{Field: "\xff\x00"}, {Field: "\xff"}, {Field: strings.Repeat("g", 40)}}}
	for place, kid := range odd.Kids {
		if got, ok := Field(odd, []int{}, kid.Field); !ok || !slices.Equal(got, []int{place}) {
			t.Errorf("Field %q: %v, %v", kid.Field, got, ok)
		}
	}
	last := side(4999)
	last.Kids[4998].Field = "f"
	if got, ok := Field(last, nil, "f"); !ok || !slices.Equal(got, []int{4998}) {
		t.Errorf("the last of many: %v, %v", got, ok)
	}
}

// P21.2: the paths of all nodes, in order.
func TestAll(t *testing.T) {
	for _, c := range []struct{ tree, want string }{
		{"r", ""},
		{"r(a)", ", 0"},
		{"r(a b c)", ", 0, 1, 2"},
		{"r(a(c) b)", ", 0, 0 0, 1"},
		{"r(a b(c))", ", 0, 1, 1 0"},
		{"r(a(b(c(d))))", ", 0, 0 0, 0 0 0, 0 0 0 0"},
		{"r(a(b c(d) e) f g(h))", ", 0, 0 0, 0 1, 0 1 0, 0 2, 1, 2, 2 0"},
	} {
		var words []string
		for _, path := range All(treeOf(c.tree)) {
			words = append(words, textOf(path, true))
		}
		if got := strings.Join(words, ", "); got != c.want || len(words) == 0 {
			t.Errorf("%s: %s, not %s", c.tree, got, c.want)
		}
		holdAll(t, treeOf(c.tree))
	}
	holdAll(t, api.Node{})
	holdAll(t, api.Node{Kids: []api.Node{}})
}

// P21.3: which of two paths is ahead.
func TestOrder(t *testing.T) {
	least, most := math.MinInt, math.MaxInt
	for _, c := range []struct {
		a, b []int
		want int
	}{
		{nil, nil, 0},
		{nil, []int{}, 0},
		{[]int{}, nil, 0},
		{[]int{}, []int{}, 0},
		{nil, []int{0}, -1},
		{[]int{}, []int{least}, -1},
		{nil, []int{-1}, -1},
		{nil, make([]int, 5000), -1},
		{[]int{0}, []int{0}, 0},
		{[]int{0}, []int{1}, -1},
		{[]int{9}, []int{10}, -1},
		{[]int{-1}, []int{0}, -1},
		{[]int{-2}, []int{-1}, -1},
		{[]int{-1}, []int{1}, -1},
		{[]int{least}, []int{most}, -1},
		{[]int{least}, []int{least + 1}, -1},
		{[]int{most - 1}, []int{most}, -1},
		{[]int{least}, []int{0}, -1},
		{[]int{least}, []int{1}, -1},
		{[]int{-1}, []int{most}, -1},
		{[]int{most}, []int{most}, 0},
		{[]int{least}, []int{least}, 0},
		{[]int{1}, []int{1 << 32}, -1},
		{[]int{0}, []int{1 << 32}, -1},
		{[]int{-1 << 32}, []int{0}, -1},
		{[]int{0}, []int{0, 0}, -1},
		{[]int{0}, []int{0, -1}, -1},
		{[]int{0}, []int{0, least}, -1},
		{[]int{0, 5}, []int{1}, -1},
		{[]int{0, 0, 0}, []int{1}, -1},
		{[]int{0, most}, []int{1, least}, -1},
		{[]int{1, 2, 3}, []int{1, 2, 4}, -1},
		{[]int{1, 2, 3}, []int{1, 3, 0}, -1},
		{[]int{1, 2, 3}, []int{2, 0, 0}, -1},
		{[]int{1, -2, 3}, []int{1, 2, 3}, -1},
		{[]int{1, 2}, []int{1, 2, 0}, -1},
		{[]int{1, 2, 9}, []int{1, 3}, -1},
		{[]int{1, 2, 3}, []int{1, 2, 3}, 0},
		{make([]int, 5000), make([]int, 5000), 0},
		{make([]int, 4999), make([]int, 5000), -1},
		{make([]int, 5000), append(make([]int, 4998), 1), -1},
		{append(make([]int, 5000), -1), make([]int, 5001), -1},
	} {
		if got := Order(c.a, c.b); got != c.want || orderByWords(c.a, c.b) != c.want {
			t.Errorf("%.20v, %.20v: %d, not %d", c.a, c.b, got, c.want)
		}
		if got := Order(c.b, c.a); got != -c.want || orderByWords(c.b, c.a) != -c.want {
			t.Errorf("%.20v, %.20v: %d, not %d", c.b, c.a, got, -c.want)
		}
	}
}

// P21.3: every two paths of at most three of some numbers.
func TestOrderOfSmall(t *testing.T) {
	all := sample.Rows([]int{math.MinInt, -1, 0, 1, math.MaxInt}, 3)
	for _, a := range all {
		for _, b := range all {
			if got := Order(a, b); got != orderByWords(a, b) || got != -Order(b, a) {
				t.Errorf("%v, %v: %d", a, b, got)
			}
		}
	}
}
