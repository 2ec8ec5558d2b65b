package node

import (
	"reflect"
	"slices"
	"testing"

	"bramble/api"
	"bramble/sample"
)

// of is a node of some bytes, with kids.
func of(kind string, from, to int, kids ...api.Node) api.Node {
	return api.Node{Kind: kind, Named: true, From: from, To: to, Kids: kids}
}

// in is a node in a field.
func in(field string, n api.Node) api.Node {
	n.Field = field
	return n
}

// bare is a node that is not Named.
func bare(n api.Node) api.Node {
	n.Named = false
	return n
}

// bad is a node with something wrong.
func bad(what int, n api.Node) api.Node {
	n.Bad = what
	return n
}

// row is so many nodes, each within the one ahead.
func row(many int) api.Node {
	n := of("a", 0, 4)
	for range many - 1 {
		n = of("a", 0, 4, n)
	}
	return n
}

// side is a node with so many kids side by side, a byte long each.
func side(many int) api.Node {
	n := of("a", 0, many)
	for i := range many {
		n.Kids = append(n.Kids, of("b", i, i+1))
	}
	return n
}

// isSame tells whether two trees are alike in all, as none of the calls looks at them.
func isSame(a, b api.Node) bool {
	return reflect.DeepEqual(sample.RoomyTree(a), sample.RoomyTree(b))
}

// holdAll holds every call but Same against the chapter's words, of a tree and some numbers.
func holdAll(t *testing.T, n api.Node, numbers []int) {
	t.Helper()
	if got, want := Print(n), printByWords(n); got != want {
		t.Errorf("%v: Print: %q, not %q", n, got, want)
	}
	if got, want := Leaves(n), leavesByWords(n); !reflect.DeepEqual(got, want) {
		t.Errorf("%v: Leaves: %v, not %v", n, got, want)
	}
	all, deep := Count(n)
	if wantDeep, wantAll := reach(n); all != wantAll || deep != wantDeep {
		t.Errorf("%v: Count: %d, %d, not %d, %d", n, all, deep, wantAll, wantDeep)
	}
	if got, want := Wrong(n), wrongByWords(n); got != want {
		t.Errorf("%v: Wrong: %v", n, got)
	}
	for _, i := range numbers {
		if got, want := Fit(n, i), fitByWords(n, i); got != want {
			t.Errorf("%v: Fit, of %d bytes: %v", n, i, got)
		}
		if got, want := Move(n, i), moveByWords(n, i); !reflect.DeepEqual(got, want) {
			t.Errorf("%v: Move by %d: %v, not %v", n, i, got, want)
		}
		for _, k := range numbers {
			holdPlaces(t, n, i, k)
		}
	}
}

// holdPlaces holds At and Find against the chapter's words, the numbers taken as bytes, and as a path.
func holdPlaces(t *testing.T, n api.Node, i, k int) {
	t.Helper()
	if got, want := At(n, i, k), atByWords(n, i, k); !reflect.DeepEqual(got, want) {
		t.Errorf("%v: At %d, %d: %v, not %v", n, i, k, got, want)
	}
	for _, path := range [][]int{nil, {}, {i}, {i, k}, {0, i, k}} {
		got, ok := Find(n, path)
		want, wantOk := findByWords(n, path)
		if ok != wantOk || !reflect.DeepEqual(got, want) {
			t.Errorf("%v: Find %v: %v, %v, not %v, %v", n, path, got, ok, want, wantOk)
		}
	}
}

// holdFollows fails where what must follow of the promises does not hold of a tree that is fit.
func holdFollows(t *testing.T, n api.Node) {
	t.Helper()
	leaves := Leaves(n)
	for i := 1; i < len(leaves); i++ {
		if leaves[i].From < leaves[i-1].To {
			t.Errorf("%v: leaves %d and %d do not rise: %v, %v", n, i-1, i, leaves[i-1], leaves[i])
		}
	}
	holdSideBySide(t, n)
}

// holdSideBySide (P14.6): a node's leaves are those of its kids, one row behind the other.
func holdSideBySide(t *testing.T, n api.Node) {
	t.Helper()
	if len(n.Kids) == 0 {
		return
	}
	rest := Leaves(n)
	for i, kid := range n.Kids {
		part := Leaves(kid)
		if len(part) == 0 || len(part) > len(rest) || !slices.EqualFunc(part, rest[:len(part)], isSame) {
			t.Errorf("%v: the leaves of kid %d are not among its own where they must be", n, i)
			return
		}
		rest = rest[len(part):]
		holdSideBySide(t, kid)
	}
	if len(rest) > 0 {
		t.Errorf("%v: %d leaves more than its kids have", n, len(rest))
	}
}

// holdLeast (P14.7): what At leads to has the bytes, none of its kids has them.
func holdLeast(t *testing.T, n api.Node, from, to int) {
	t.Helper()
	path := At(n, from, to)
	if !covers(n, from, to) {
		if path != nil {
			t.Errorf("%v: At %d, %d: %v", n, from, to, path)
		}
		return
	}
	least, ok := Find(n, path)
	if !ok || !covers(least, from, to) {
		t.Errorf("%v: At %d, %d: %v, of %v", n, from, to, path, least)
	}
	for _, kid := range least.Kids {
		if covers(kid, from, to) {
			t.Errorf("%v: At %d, %d: %v, and a kid has them, too", n, from, to, path)
		}
	}
}

// holdThereAndBack (P14.8).
func holdThereAndBack(t *testing.T, n api.Node, by int) {
	t.Helper()
	there := Move(n, by)
	if back := Move(there, -by); !isSame(back, n) || !Same(back, n) {
		t.Errorf("%v: by %d and back: %v", n, by, back)
	}
	if Print(there) != Print(n) {
		t.Errorf("%v: moved by %d: %q, not %q", n, by, Print(there), Print(n))
	}
	if by != 0 && Same(there, n) {
		t.Errorf("%v: moved by %d it is the same", n, by)
	}
}

// dress gives nodes what the digits of a number say: three Bads, Named, and a Field.
func dress(n *api.Node, number int) {
	for _, part := range sample.NodesOf(n) {
		part.Kind, part.Bad, part.Named = "k", number%3, number/3%2 == 1
		part.Field = []string{"", "f"}[number/6%2]
		number /= 12
	}
}

// Every tree of at most 4 nodes, each node Named and not, with a Field and without, of each Bad.
func TestEverySmallTree(t *testing.T) {
	for nodes, many := 1, 12; nodes <= 4; nodes, many = nodes+1, many*12 {
		for _, shape := range sample.Shapes(nodes) {
			for number := range many {
				n := shape
				dress(&n, number)
				if got, want := Print(n), printByWords(n); got != want {
					t.Fatalf("%v: %q, not %q", n, got, want)
				}
				if Wrong(n) != wrongByWords(n) || Fit(n, 0) != fitByWords(n, 0) {
					t.Fatalf("%v: Wrong: %v, Fit: %v", n, Wrong(n), Fit(n, 0))
				}
			}
		}
	}
}

// Every tree of at most 3 nodes with every two places from -1 to 3 in each node.
func TestEveryPlace(t *testing.T) {
	numbers := []int{-1, 0, 1, 2, 3, 4}
	for nodes, many := 1, 25; nodes <= 3; nodes, many = nodes+1, many*25 {
		for _, n := range sample.Shapes(nodes) {
			for number := range many {
				for _, part := range sample.NodesOf(&n) {
					part.Kind, part.From, part.To = "k", number%5-1, number/5%5-1
					number /= 25
				}
				for _, size := range numbers {
					if got, want := Fit(n, size), fitByWords(n, size); got != want {
						t.Fatalf("%v: Fit, of %d bytes: %v", n, size, got)
					}
					for _, to := range numbers {
						if got, want := At(n, size, to), atByWords(n, size, to); !reflect.DeepEqual(got, want) {
							t.Fatalf("%v: At %d, %d: %v, not %v", n, size, to, got, want)
						}
						holdLeast(t, n, size, to)
					}
				}
				if fitByWords(n, 3) {
					holdFollows(t, n)
				}
			}
		}
	}
}

// Trees of all shapes of at most 7 nodes: what they have within one another.
func TestEveryShape(t *testing.T) {
	for nodes := 1; nodes <= 7; nodes++ {
		for _, n := range sample.Shapes(nodes) {
			for at, part := range sample.NodesOf(&n) {
				part.Kind = string(rune('a' + at))
			}
			holdAll(t, n, []int{-1, 0, 1, 2})
			holdSideBySide(t, n)
		}
	}
}

func TestDrawnTrees(t *testing.T) {
	seed := sample.Seed(41)
	numbers := []int{-1 << 63, -3, -1, 0, 1, 2, 3, 5, 8, 1<<63 - 1}
	fit, wide := 0, 0
	for range 600 {
		any := sample.AnyTree(&seed, 1+seed.Below(12))
		made := sample.FitTree(&seed, seed.Below(3), 3+seed.Below(9), 1+seed.Below(6))
		for _, n := range []api.Node{any, made} {
			holdAll(t, n, numbers)
			for _, by := range numbers {
				holdThereAndBack(t, n, by)
				for _, to := range numbers {
					holdLeast(t, n, by, to)
				}
			}
		}
		if !Fit(made, made.To) || Fit(made, made.To-1) {
			t.Fatalf("%v: Fit: %v, %v", made, Fit(made, made.To), Fit(made, made.To-1))
		}
		holdFollows(t, made)
		if len(Leaves(made)) > 20 {
			wide++
		}
		if fitByWords(any, 8) {
			fit++
		}
	}
	if fit < 20 || wide < 20 {
		t.Errorf("%d of the others are fit, %d of those that are have many leaves", fit, wide)
	}
}
