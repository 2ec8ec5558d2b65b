package glr

import (
	"fmt"
	"reflect"
	"slices"
	"testing"

	"bramble/api"
	"bramble/sample"
)

// given is what a call is given.
type given struct {
	f api.Flat
	t api.Table
	l []int
}

// roomy is the same in memory of its own, with room behind its lists.
func (g given) roomy() given {
	return given{sample.RoomyFlat(g.f), sample.RoomyTable(g.t), sample.RoomyList(g.l)}
}

// stays tells whether all is as roomy has made it of another one.
func (g given) stays(was given) bool {
	behind := g.l[len(g.l):cap(g.l)]
	return reflect.DeepEqual(g, was.roomy()) && sample.FlatRoomStays(g.f) && sample.TableRoomStays(g.t) && !slices.ContainsFunc(behind, func(n int) bool { return n != 0 })
}

// spoil writes over all that is given, and behind its lists.
func (g given) spoil() {
	for _, p := range g.f.Prods {
		clear(p.Right[:cap(p.Right)])
	}
	clear(g.f.Prods[:cap(g.f.Prods)])
	clear(g.f.Terms[:cap(g.f.Terms)])
	for _, r := range g.t.Rows {
		for _, a := range r.Acts {
			spoilList(a.Reduce)
		}
		clear(r.Acts[:cap(r.Acts)])
		clear(r.Goes[:cap(r.Goes)])
	}
	clear(g.t.Rows[:cap(g.t.Rows)])
	spoilList(g.l)
}

func spoilList(l []int) {
	l = l[:cap(l)]
	for i := range l {
		l[i] = 77
	}
}

// answer is all that is told in memory that could be shared.
type answer struct {
	stack api.Gss
	next  []int
}

func (g given) answer() answer {
	stack, _ := Run(g.f, g.t, g.l)
	return answer{stack, Next(g.f, g.t, g.l)}
}

func (a answer) spoil() {
	for _, node := range a.stack.Nodes {
		spoilList(node.Links)
	}
	clear(a.stack.Nodes[:cap(a.stack.Nodes)])
	spoilList(a.next)
}

// someGiven is plain grammars, tables and rows of all kinds.
func someGiven(t *testing.T) []given {
	t.Helper()
	sums := plain(t, "x +", "a", "a -> a + a; a -> x")
	round := plain(t, "x", "a b", "a -> b a x; a -> x; b ->")
	all := []given{
		{sums, built(t, sums), []int{0, 1, 0, 1, 0}},
		{sums, built(t, sums), []int{0, 1, 1}},
		{sums, built(t, sums), nil},
		{sums, api.Table{}, []int{0, -1, 7}},
		{round, built(t, round), []int{0, 0, 0}},
	}
	f, tables := tower(128, false, false)
	all = append(all, given{f, tables, make([]int, 31)}, given{f, tables, make([]int, 32)})
	seed := sample.Seed(179)
	for range 40 {
		f := sample.Flat(&seed, sample.Symbols(2, 2), 4, 3)
		all = append(all,
			given{f, sample.BusyTable(&seed, f, 4, 4), sample.Row(&seed, f, 6)},
			given{f, sample.AnyTable(&seed, 3), sample.Row(&seed, f, 6)})
	}
	return all
}

// 0.5: what a call is given is as it was, and so is what lies behind it.
func TestArgumentsStay(t *testing.T) {
	for _, was := range someGiven(t) {
		g := was.roomy()
		callAll(g.f, g.t, g.l)
		if !g.stays(was) {
			t.Errorf("%v has changed: %v", was, g)
		}
	}
}

// 0.5: what is told lies in memory of its own: what is written over it is seen in no argument and in no later answer.
func TestAnswersShareNothing(t *testing.T) {
	for _, was := range someGiven(t) {
		g := was.roomy()
		told := g.answer()
		before := fmt.Sprint(told)
		told.spoil()
		if !g.stays(was) {
			t.Errorf("%v has changed with what was told of it: %v", was, g)
		}
		if after := fmt.Sprint(g.answer()); after != before {
			t.Errorf("%v: %s, not %s", was, after, before)
		}
	}
}

// 0.5: what is told stays, whatever becomes of the arguments.
func TestAnswersKeepNothing(t *testing.T) {
	for _, was := range someGiven(t) {
		g := was.roomy()
		told := g.answer()
		before := fmt.Sprint(told)
		g.spoil()
		if after := fmt.Sprint(told); after != before {
			t.Errorf("%v: %s, not %s", was, after, before)
		}
	}
}

// No two lists of one answer share memory.
func TestListsShareNothing(t *testing.T) {
	for _, g := range someGiven(t) {
		stack := g.answer().stack
		before := fmt.Sprint(stack)
		for _, node := range stack.Nodes {
			_ = append(node.Links, 77)
		}
		if after := fmt.Sprint(stack); after != before {
			t.Errorf("%v: %s, not %s", g, after, before)
		}
		for number, node := range stack.Nodes {
			for i := range node.Links {
				node.Links[i] = -number
			}
		}
		for number, node := range stack.Nodes {
			if slices.ContainsFunc(node.Links, func(link int) bool { return link != -number }) {
				t.Errorf("%v: links of node %d are another one's, too", g, number)
			}
		}
	}
}

// What is told hangs on the numbers alone: not on names, Fields, Aliases and Precs.
func TestNamesPlayNoPart(t *testing.T) {
	for _, g := range someGiven(t) {
		dressed := given{sample.DressedFlat(g.f), g.t, g.l}
		if fmt.Sprint(dressed.answer()) != fmt.Sprint(g.answer()) {
			t.Errorf("%v: %v, and with other names %v", g, g.answer(), dressed.answer())
		}
	}
}
