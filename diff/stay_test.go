package diff

import (
	"fmt"
	"slices"
	"testing"

	"bramble/api"
	"bramble/sample"
)

// given is what calls are given.
type given struct {
	a, b api.Node
	l    []api.Edit
	size int
}

// roomy is the same in memory of its own, with room behind its lists.
func (g given) roomy() given {
	l := append(slices.Clone(g.l), api.Edit{At: 77}, api.Edit{At: 77})
	return given{sample.RoomyTree(g.a), sample.RoomyTree(g.b), l[:len(g.l)], g.size}
}

// stays tells whether what was given is as it was, and so what lies behind it.
func (g given) stays(was given) bool {
	behind := g.l[:cap(g.l)][len(g.l) : len(g.l)+2]
	return fmt.Sprint(g) == fmt.Sprint(was) && sample.TreeRoomStays(g.a) && sample.TreeRoomStays(g.b) && behind[0].At == 77 && behind[1].At == 77
}

// told is all lists that are told.
type told struct {
	marks  [][]api.Mark
	ranges [][]api.Range
}

// ask calls everything.
func (g given) ask() told {
	var all told
	for at := -1; at <= g.size; at++ {
		all.marks = append(all.marks, Marks(g.a, at), Marks(g.b, at))
		From(g.l, at)
	}
	Alike(g.a, g.b, g.size)
	all.ranges = [][]api.Range{Changed(g.a, g.b, g.l, g.size), Changed(g.b, g.a, g.l, g.size), Changed(g.a, g.b, nil, g.size)}
	return all
}

// spoil writes over all that was told, and behind it.
func (all told) spoil() {
	for _, l := range all.marks {
		l = l[:cap(l)]
		for i := range l {
			l[i] = api.Mark{Kind: "spoilt", First: true, Last: true}
		}
	}
	for _, l := range all.ranges {
		l = l[:cap(l)]
		for i := range l {
			l[i] = api.Range{From: 99, To: 99}
		}
	}
}

// asked is some things to be asked.
func asked() []given {
	seed := sample.Seed(2210)
	all := []given{
		{a: treeOf("a@0,3"), b: treeOf("a@0,4"), l: []api.Edit{{At: 3, Text: "x"}}, size: 5},
		{a: treeOf("r@0,4(a@1,2 b@3,4)"), b: treeOf("r@0,4(b@1,2 a@3,4)"), size: 5},
	}
	for range 300 {
		size := seed.Below(20)
		l, was := drawnEdits(&seed, size, seed.Below(4))
		all = append(all, given{sample.FitTree(&seed, 0, size, 5), sample.FitTree(&seed, 0, len(was), 5), l, len(was) + 1})
	}
	return all
}

// 0.5: what a call is given is as it was, and so is what lies behind it.
func TestArgumentsStay(t *testing.T) {
	for _, g := range asked() {
		roomy := g.roomy()
		if roomy.ask(); !roomy.stays(g.roomy()) {
			t.Errorf("%v has changed: %v", g, roomy)
		}
	}
}

// 0.5: what is told lies in memory of its own: what is written over it is seen in no argument and in no other answer.
func TestAnswersShareNothing(t *testing.T) {
	for _, g := range asked() {
		roomy := g.roomy()
		all := roomy.ask()
		before := fmt.Sprint(all)
		all.spoil()
		if !roomy.stays(g.roomy()) {
			t.Errorf("%v has changed: %v", g, roomy)
		}
		if fmt.Sprint(roomy.ask()) != before {
			t.Errorf("%v: what is told has changed", g)
		}
	}
}

// 0.5: what is told stays, whatever becomes of the arguments.
func TestAnswersKeepNothing(t *testing.T) {
	for _, g := range asked() {
		roomy := g.roomy()
		all := roomy.ask()
		before := fmt.Sprint(all)
		for _, tree := range []*api.Node{&roomy.a, &roomy.b} {
			for _, part := range slices.Backward(sample.NodesOf(tree)) {
				clear(part.Kids[:cap(part.Kids)])
				part.Kind = "spoilt"
			}
		}
		clear(roomy.l[:cap(roomy.l)])
		if fmt.Sprint(all) != before {
			t.Errorf("%v: what was told has changed", g)
		}
	}
}

// 0.5: no two lists that are told share memory: each is written over alone, and no other one changes.
func TestListsShareNothing(t *testing.T) {
	for _, g := range asked()[:60] {
		all := g.ask()
		for i := range all.marks {
			one := told{marks: all.marks[i : i+1]}
			rest := fmt.Sprint(all.marks[:i], all.marks[i+1:], all.ranges)
			if one.spoil(); fmt.Sprint(all.marks[:i], all.marks[i+1:], all.ranges) != rest {
				t.Errorf("%v: marks %d share memory with others", g, i)
			}
		}
		for i := range all.ranges {
			one := told{ranges: all.ranges[i : i+1]}
			rest := fmt.Sprint(all.ranges[:i], all.ranges[i+1:])
			if one.spoil(); fmt.Sprint(all.ranges[:i], all.ranges[i+1:]) != rest {
				t.Errorf("%v: ranges %d share memory with others", g, i)
			}
		}
	}
}
