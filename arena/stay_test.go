package arena

import (
	"fmt"
	"testing"

	"bramble/api"
	"bramble/sample"
)

// given is what calls are given.
type given struct {
	a, b api.Arena
	n    api.Node
}

func (g given) roomy() given {
	return given{sample.RoomyArena(g.a), sample.RoomyArena(g.b), sample.RoomyTree(g.n)}
}

// stays tells whether what was given is as it was, and so what lies behind it.
func (g given) stays(was given) bool {
	return fmt.Sprint(g) == fmt.Sprint(was.roomy()) && sample.ArenaRoomStays(g.a) && sample.ArenaRoomStays(g.b) && sample.TreeRoomStays(g.n)
}

// told is all that is told in memory that could be shared.
type told struct {
	arenas []api.Arena
	trees  []api.Node
}

// ask calls everything.
func (g given) ask() told {
	added, _, _ := Add(g.a, g.n)
	all := told{arenas: []api.Arena{New(), added}}
	for h := -1; h <= len(g.a.Roots); h++ {
		less, _ := Drop(g.a, h)
		n, _ := Read(g.a, h)
		all.arenas = append(all.arenas, less)
		all.trees = append(all.trees, n)
		Shared(g.a, h, 0)
	}
	Fit(g.a)
	Fit(g.b)
	Live(g.a)
	Same(g.a, g.b)
	Same(g.b, g.a)
	return all
}

// spoilTree writes over a tree's kids, and behind them.
func spoilTree(n api.Node) {
	for _, kid := range n.Kids {
		spoilTree(kid)
	}
	l := n.Kids[:cap(n.Kids)]
	for i := range l {
		l[i] = api.Node{Kind: "spoilt", From: 77}
	}
}

func spoilList(l []int) {
	l = l[:cap(l)]
	for i := range l {
		l[i] = 77
	}
}

// spoil writes over an arena, and behind its lists.
func spoil(a api.Arena) {
	for _, slot := range a.Slots {
		spoilTree(slot.Node)
		spoilList(slot.Kids)
	}
	l := a.Slots[:cap(a.Slots)]
	for i := range l {
		l[i] = api.Slot{Refs: 77, Next: 77}
	}
	spoilList(a.Roots)
}

func (all told) spoil() {
	for _, a := range all.arenas {
		spoil(a)
	}
	for _, n := range all.trees {
		spoilTree(n)
	}
}

// questions is some: fit arenas, bent ones, and one that is full.
func questions(t *testing.T) []given {
	seed := sample.Seed(206)
	var all []given
	for range 150 {
		a := sample.FitArena(&seed, 6)
		all = append(all, given{a, sample.BentArena(&seed, a), sample.AnyTree(&seed, 9)})
	}
	full := added(t, New(), side(4095))
	x := sample.TreeOf("x(y y)")
	return append(all, given{New(), full, x}, given{full, full, x}, given{full, New(), side(4095)})
}

// 0.5: so it is where there is an error because of the handles, too.
func TestStayOfManyHandles(t *testing.T) {
	was := sample.ArenaOf("-1 | 0 | a*1:1 b*1")
	for len(was.Roots) < 4096 {
		was.Roots = append(was.Roots, -1)
	}
	a := sample.RoomyArena(was)
	made, _, err := Add(a, sample.TreeOf("x(y y)"))
	less, none := Drop(a, 1)
	spoil(made)
	if spoil(less); err != api.ErrMany || none != api.ErrNone || !isSame(a, was) || !sample.ArenaRoomStays(a) {
		t.Errorf("%v, %v", err, none)
	}
}

// 0.5: what a call is given is as it was, and so is what lies behind it.
func TestArgumentsStay(t *testing.T) {
	for i, was := range questions(t) {
		g := was.roomy()
		if g.ask(); !g.stays(was) {
			t.Errorf("question %d: what was given has changed", i)
		}
	}
}

// 0.5: what is told lies in memory of its own: what is written over it is seen in no argument and in no other answer.
func TestAnswersShareNothing(t *testing.T) {
	for i, was := range questions(t) {
		g := was.roomy()
		all := g.ask()
		before := fmt.Sprint(all)
		all.spoil()
		if !g.stays(was) {
			t.Errorf("question %d: what was given has changed", i)
		}
		if fmt.Sprint(g.ask()) != before {
			t.Errorf("question %d: what is told has changed", i)
		}
	}
}

// 0.5: what is told stays, whatever becomes of the arguments.
func TestAnswersKeepNothing(t *testing.T) {
	for i, was := range questions(t) {
		g := was.roomy()
		all := g.ask()
		before := fmt.Sprint(all)
		spoil(g.a)
		spoil(g.b)
		spoilTree(g.n)
		if fmt.Sprint(all) != before {
			t.Errorf("question %d: what was told has changed", i)
		}
	}
}

// Each call lies in memory of its own: what is done to one arena is not seen in the one that it came of.
func TestArenasStay(t *testing.T) {
	a := New()
	var all []api.Arena
	var before []string
	for i := range 12 {
		made, _, _ := Add(a, sample.TreeOf([]string{"a(b c)", "b", "d(a(b c) b)"}[i%3]))
		if i%4 == 3 {
			made, _ = Drop(made, i/2)
		}
		all, before = append(all, made), append(before, fmt.Sprint(made))
		a = made
	}
	for i := range all {
		if fmt.Sprint(all[i]) != before[i] {
			t.Fatalf("arena %d has changed: %v", i, all[i])
		}
		spoil(all[i])
	}
}

// No two lists of one answer share memory: what is written in or behind one of them is seen in no other one.
func TestListsShareNothing(t *testing.T) {
	kids := []int{1, 1, 2, 2}
	shared := api.Arena{Free: -1, Roots: kids[:0:0], Slots: []api.Slot{{Node: api.Node{Kind: "a"}, Kids: kids[:2], Refs: 1, Next: -1}, {Node: api.Node{Kind: "b"}, Kids: kids[2:], Refs: 3, Next: -1}, {Node: api.Node{Kind: "c"}, Kids: nil, Refs: 3, Next: -1}, {Node: api.Node{Kind: "d"}, Kids: kids[1:3], Refs: 1, Next: -1}}}
	shared.Roots = []int{0, 3}
	if !Fit(shared) {
		t.Fatal("the arena is not fit")
	}
	for _, g := range append(questions(t), given{shared, shared, sample.TreeOf("a(b(c c) b(c c))")}) {
		all := g.ask()
		before := fmt.Sprint(all)
		for _, a := range all.arenas {
			_ = append(a.Roots, 77)
			for _, slot := range a.Slots {
				_ = append(slot.Kids, 77)
				_ = append(slot.Node.Kids, api.Node{Kind: "spoilt"})
			}
		}
		for i := range all.trees {
			for _, n := range sample.NodesOf(&all.trees[i]) {
				_ = append(n.Kids, api.Node{Kind: "spoilt"})
			}
		}
		if fmt.Sprint(all) != before {
			t.Fatalf("%v: lists share memory", g.a)
		}
		for _, a := range all.arenas {
			holdApart(t, a)
		}
	}
}

// holdApart fails where two places in an arena's lists are one.
func holdApart(t *testing.T, a api.Arena) {
	t.Helper()
	next := 0
	each := func(f func(n *int)) {
		next = 1000
		for _, l := range append([][]int{a.Roots}, kidsOf(a)...) {
			for i := range l {
				f(&l[i])
				next++
			}
		}
	}
	each(func(n *int) { *n = next })
	each(func(n *int) {
		if *n != next {
			t.Fatalf("%v: two places are one", a)
		}
	})
}

func kidsOf(a api.Arena) [][]int {
	var all [][]int
	for _, slot := range a.Slots {
		all = append(all, slot.Kids)
	}
	return all
}

// 0.7: an empty list is none.
func TestEmptyLists(t *testing.T) {
	for _, g := range questions(t) {
		all := g.roomy().ask()
		for _, a := range all.arenas {
			if a.Slots != nil && len(a.Slots) == 0 || a.Roots != nil && len(a.Roots) == 0 {
				t.Fatalf("%v: an empty list", g.a)
			}
			for _, slot := range a.Slots {
				if slot.Kids != nil && len(slot.Kids) == 0 || slot.Node.Kids != nil {
					t.Fatalf("%v: an empty list in %v", g.a, slot)
				}
			}
		}
		for i := range all.trees {
			for _, n := range sample.NodesOf(&all.trees[i]) {
				if n.Kids != nil && len(n.Kids) == 0 {
					t.Fatalf("%v: an empty list in %v", g.a, n)
				}
			}
		}
	}
}
