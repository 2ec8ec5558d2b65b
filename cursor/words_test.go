package cursor

import (
	"slices"
	"testing"

	"bramble/api"
	"bramble/node"
)

// What follows says the chapter's words once more, by the list of all paths alone, so that the calls can be held against them.

func allByWords(n api.Node) [][]int {
	all := [][]int{nil}
	for place, kid := range n.Kids {
		for _, path := range allByWords(kid) {
			all = append(all, append([]int{place}, path...))
		}
	}
	return all
}

// orderByWords goes number by number; the one that is at an end first is ahead.
func orderByWords(a, b []int) int {
	if len(a) == 0 && len(b) == 0 {
		return 0
	}
	if len(a) == 0 {
		return -1
	}
	if len(b) == 0 {
		return 1
	}
	if a[0] < b[0] {
		return -1
	}
	if a[0] > b[0] {
		return 1
	}
	return orderByWords(a[1:], b[1:])
}

// placeIn is the place of a path among others, -1 where it is none of them.
func placeIn(all [][]int, path []int) int {
	return slices.IndexFunc(all, func(l []int) bool { return slices.Equal(l, path) })
}

// where is what a call tells.
type where struct {
	path []int
	ok   bool
}

func (a where) is(b where) bool {
	return a.ok == b.ok && (len(a.path) > 0 || a.path == nil) && slices.Equal(a.path, b.path)
}

// amid is a path, if it is one of all.
func amid(all [][]int, path []int) where {
	if placeIn(all, path) < 0 {
		return where{}
	}
	return where{path, true}
}

// lastPlus is a path with so much more as its last number.
func lastPlus(path []int, by int) []int {
	l := slices.Clone(path)
	l[len(l)-1] += by
	return l
}

func fieldByWords(n api.Node, all [][]int, path []int, name string) where {
	if placeIn(all, path) < 0 {
		return where{}
	}
	for place := 0; ; place++ {
		kid := amid(all, append(slices.Clone(path), place))
		if !kid.ok {
			return where{}
		}
		if found, _ := node.Find(n, kid.path); found.Field == name {
			return kid
		}
	}
}

// movesByWords is what Down, Up, Right, Left and Next tell.
func movesByWords(all [][]int, path []int) [5]where {
	at := placeIn(all, path)
	if at < 0 {
		return [5]where{}
	}
	told := [5]where{0: amid(all, append(slices.Clone(path), 0))}
	if len(path) > 0 {
		told[1] = where{path[:len(path)-1], true}
		told[2] = amid(all, lastPlus(path, 1))
		told[3] = amid(all, lastPlus(path, -1))
	}
	if at+1 < len(all) {
		told[4] = where{all[at+1], true}
	}
	return told
}

var moveNames = [5]string{"Down", "Up", "Right", "Left", "Next"}

// moves is what the five calls tell.
func moves(n api.Node, path []int) [5]where {
	var told [5]where
	for i, call := range []func(api.Node, []int) ([]int, bool){Down, Up, Right, Left, Next} {
		told[i].path, told[i].ok = call(n, path)
	}
	return told
}

// tellsNothing tells whether the five calls tell false, and no path.
func tellsNothing(n api.Node, path []int) bool {
	for _, got := range moves(n, path) {
		if got.ok || got.path != nil {
			return false
		}
	}
	return true
}

// holdMoves holds the five calls against the chapter's words; all is the paths of the tree.
func holdMoves(t *testing.T, n api.Node, all [][]int, path []int) {
	t.Helper()
	want := movesByWords(all, path)
	for i, got := range moves(n, path) {
		if !got.is(want[i]) {
			t.Errorf("%s of %v in %s: %v, not %v", moveNames[i], path, node.Print(n), got, want[i])
		}
	}
}

// holdFields holds Field against the chapter's words.
func holdFields(t *testing.T, n api.Node, all [][]int, path []int, names ...string) {
	t.Helper()
	for _, name := range names {
		got, ok := Field(n, path, name)
		if want := fieldByWords(n, all, path, name); !(where{got, ok}).is(want) {
			t.Errorf("Field %q of %v in %s: %v, %v, not %v", name, path, node.Print(n), got, ok, want)
		}
	}
}

// holdAll holds All against the chapter's words, and tells it.
func holdAll(t *testing.T, n api.Node) [][]int {
	t.Helper()
	all := allByWords(n)
	got := All(n)
	if !slices.EqualFunc(got, all, slices.Equal[[]int]) || got[0] != nil {
		t.Errorf("All of %s: %v, not %v", node.Print(n), got, all)
	}
	return all
}
