package gss

import (
	"fmt"
	"reflect"
	"slices"
	"testing"

	"bramble/api"
	"bramble/sample"
)

// callAll calls everything with two stacks.
func callAll(a, b api.Gss) {
	Fit(a)
	Same(a, b)
	Same(b, a)
	Merge(a, b)
	Merge(b, a)
	for i := -1; i < 7; i++ {
		Top(a, i)
		for k := -1; k < 5; k++ {
			Find(a, i, k)
			Back(a, i, k)
			Paths(a, i, k)
			for at := -1; at < 5; at++ {
				Push(a, i, k, at)
			}
		}
	}
}

// stacks is some that are drawn, fit and not, and one that has links to all.
func stacks() []api.Gss {
	seed := sample.Seed(171)
	all := []api.Gss{{}, sample.StackOf("0@0:0,1 1@0:0,1 2@1:0,1,2,3 3@1:0,1,2,3")}
	for range 40 {
		all = append(all, sample.FitStack(&seed, 7, 4, 4), sample.AnyStack(&seed, 5))
	}
	return all
}

// 0.5: what a call is given is as it was, and so is what lies behind it.
func TestArgumentsStay(t *testing.T) {
	all := stacks()
	for i, was := range all {
		other := all[(i+1)%len(all)]
		a, b := sample.RoomyStack(was), sample.RoomyStack(other)
		callAll(a, b)
		if !reflect.DeepEqual(a, sample.RoomyStack(was)) || !sample.StackRoomStays(a) {
			t.Errorf("%v has changed: %v", was, a)
		}
		if !reflect.DeepEqual(b, sample.RoomyStack(other)) || !sample.StackRoomStays(b) {
			t.Errorf("%v has changed: %v", other, b)
		}
	}
}

// 0.5: what can be told as it was given stays, too, where there is no room for more nodes.
func TestFullArgumentsStay(t *testing.T) {
	was := sample.StackOfMany(4096, 4, 1)
	for number := range was.Nodes {
		was.Nodes[number].Links = []int{number / 4}
	}
	g := sample.RoomyStack(was)
	other := sample.StackOf("7@0")
	none, _, _ := Push(g, 0, 7, 0)
	link, _, _ := Push(g, 0, 0, 9)
	for i, told := range []api.Gss{none, link, Merge(g, other)} {
		holdApart(t, fmt.Sprint("answer ", i), told)
		spoil(told)
		if !reflect.DeepEqual(g, sample.RoomyStack(was)) || !sample.StackRoomStays(g) {
			t.Fatalf("the stack has changed with answer %d", i)
		}
	}
}

// spoil writes over a stack, and behind its lists.
func spoil(g api.Gss) {
	for _, node := range g.Nodes {
		spoilList(node.Links)
	}
	l := g.Nodes[:cap(g.Nodes)]
	for i := range l {
		l[i] = api.Gnode{State: 77, At: 77, Links: []int{77}}
	}
}

func spoilList(l []int) {
	l = l[:cap(l)]
	for i := range l {
		l[i] = 77
	}
}

// answer is all that is told of two stacks in memory that could be shared.
type answer struct {
	stacks []api.Gss
	lists  [][]int
	paths  [][][]int
}

func answers(a, b api.Gss) answer {
	told := answer{stacks: []api.Gss{Merge(a, b), Merge(a, a), New(1)}}
	for i := -1; i < 6; i++ {
		told.lists = append(told.lists, Top(a, i))
		for k := -1; k < 4; k++ {
			told.lists = append(told.lists, Back(a, i, k))
			paths, _ := Paths(a, i, k)
			told.paths = append(told.paths, paths)
			for at := -1; at < 4; at++ {
				made, _, _ := Push(a, i, k, at)
				told.stacks = append(told.stacks, made)
			}
		}
	}
	return told
}

func (a answer) spoil() {
	for _, g := range a.stacks {
		spoil(g)
	}
	for _, l := range a.lists {
		spoilList(l)
	}
	for _, paths := range a.paths {
		for _, row := range paths {
			spoilList(row)
		}
		clear(paths[:cap(paths)])
	}
}

// 0.5: what is told lies in memory of its own: what is written over it is seen in no argument and in no other answer.
func TestAnswersShareNothing(t *testing.T) {
	all := stacks()
	for i, was := range all {
		a, b := sample.RoomyStack(was), sample.RoomyStack(all[(i+1)%len(all)])
		told := answers(a, b)
		before := fmt.Sprint(told)
		told.spoil()
		if !reflect.DeepEqual(a, sample.RoomyStack(was)) || !sample.StackRoomStays(a) || !sample.StackRoomStays(b) {
			t.Errorf("%v has changed with what was told of it", was)
		}
		if after := fmt.Sprint(answers(a, b)); after != before {
			t.Errorf("%v: %s, not %s", was, after, before)
		}
	}
}

// 0.5: what is told stays, whatever becomes of the arguments.
func TestAnswersKeepNothing(t *testing.T) {
	all := stacks()
	for i, was := range all {
		a, b := sample.RoomyStack(was), sample.RoomyStack(all[(i+1)%len(all)])
		told := answers(a, b)
		before := fmt.Sprint(told)
		spoil(a)
		spoil(b)
		if fmt.Sprint(told) != before {
			t.Errorf("%v: what was told has changed with it", was)
		}
	}
}

// holdApart fails where lists of a stack share memory: what is written in or behind one of them is seen in another one.
func holdApart(t *testing.T, what string, g api.Gss) {
	t.Helper()
	was := fmt.Sprint(g)
	for _, node := range g.Nodes {
		_ = append(node.Links, 77)
	}
	if fmt.Sprint(g) != was {
		t.Errorf("%s: lists share memory", what)
	}
	next := 1000
	for _, node := range g.Nodes {
		for i := range node.Links {
			node.Links[i] = next
			next++
		}
	}
	next = 1000
	for _, node := range g.Nodes {
		for _, link := range node.Links {
			if link != next {
				t.Fatalf("%s: two links share their memory", what)
			}
			next++
		}
	}
}

// No two lists of one answer share memory, even if those of the argument do.
func TestListsShareNothing(t *testing.T) {
	links := []int{0, 1, 2, 3}
	shared := api.Gss{Nodes: []api.Gnode{{State: 0, Links: links}, {State: 1, Links: links[:2]}, {State: 2, Links: links[1:3]}, {State: 3, Links: links}}}
	if !Fit(shared) {
		t.Fatal("the stack is not fit")
	}
	for _, g := range append(stacks(), shared) {
		for _, told := range answers(g, shared).stacks {
			holdApart(t, fmt.Sprint(g), told)
		}
		for _, paths := range answers(g, shared).paths {
			before := fmt.Sprint(paths)
			for _, row := range paths {
				_ = append(row, 77)
			}
			if fmt.Sprint(paths) != before {
				t.Fatalf("%v: rows share memory", g)
			}
			for i, row := range paths {
				for k := range row {
					row[k] = 1000*i + k
				}
			}
			for i, row := range paths {
				if len(row) > 0 && (row[0] != 1000*i || row[len(row)-1] != 1000*i+len(row)-1) {
					t.Fatalf("%v: rows share memory", g)
				}
			}
		}
	}
	if !slices.Equal(links, []int{0, 1, 2, 3}) {
		t.Errorf("%v", links)
	}
}
