package arena

import (
	"math"
	"testing"

	"bramble/api"
	"bramble/sample"
)

// P20.1: any two arenas, field by field.
func TestSame(t *testing.T) {
	arenas := []string{
		"-1 | |", "0 | |", "-2 | |", "9223372036854775807 | |",
		"-1 | 0 |", "-1 | -1 |", "-1 | 0 0 |", "-1 | 0 1 |", "-1 | 1 0 |",
		"-1 | | *0", "-1 | | *0 *0", "-1 | | *1", "-1 | | *-1", "-1 | | >0", "-1 | | >-2",
		"-1 | | a", "-1 | | b", "-1 | | @0,1", "-1 | | @1,0", "-1 | | @-1,0",
		"-1 | | :0", "-1 | | :1", "-1 | | :-1", "-1 | | :0,0", "-1 | | :0,1", "-1 | | :1,0",
		"-1 | | a b", "-1 | | b a", "-1 | | a *1", "-1 | | *1 a", "-1 | 0 | a*1", "0 | 0 | a*1",
	}
	for i, a := range arenas {
		for k, b := range arenas {
			if got := Same(sample.ArenaOf(a), sample.ArenaOf(b)); got != (i == k) {
				t.Errorf("%q and %q: %v", a, b, got)
			}
		}
		if x := sample.ArenaOf(a); !Same(x, sample.RoomyArena(x)) || !Same(sample.RoomyArena(x), x) {
			t.Errorf("%q: an empty list is not none", a)
		}
	}
}

// otherArenas is an arena with each of its numbers and each part of its nodes another one, one by one.
func otherArenas(was api.Arena) []api.Arena {
	var all []api.Arena
	change := func(f func(a *api.Arena)) {
		a := sample.RoomyArena(was)
		f(&a)
		all = append(all, a)
	}
	change(func(a *api.Arena) { a.Free++ })
	change(func(a *api.Arena) { a.Roots = append(a.Roots, -1) })
	change(func(a *api.Arena) { a.Slots = append(a.Slots, api.Slot{}) })
	for i := range was.Roots {
		change(func(a *api.Arena) { a.Roots[i]-- })
	}
	for place, slot := range was.Slots {
		change(func(a *api.Arena) { a.Slots[place].Refs++ })
		change(func(a *api.Arena) { a.Slots[place].Next-- })
		change(func(a *api.Arena) { a.Slots[place].Kids = append(a.Slots[place].Kids, 0) })
		for i := range slot.Kids {
			change(func(a *api.Arena) { a.Slots[place].Kids[i]++ })
		}
		for at := range sample.NodesOf(&slot.Node) {
			for _, f := range []func(n *api.Node){
				func(n *api.Node) { n.Kind += "k" },
				func(n *api.Node) { n.Named = !n.Named },
				func(n *api.Node) { n.Field += "f" },
				func(n *api.Node) { n.From-- },
				func(n *api.Node) { n.To++ },
				func(n *api.Node) { n.Bad = math.MaxInt },
				func(n *api.Node) { n.Kids = append(n.Kids, api.Node{}) },
			} {
				change(func(a *api.Arena) { f(sample.NodesOf(&a.Slots[place].Node)[at]) })
			}
		}
	}
	return all
}

// P20.1: one number, one part of one node, one thing more, whichever that is; nodes that have Kids, too.
func TestSameButOne(t *testing.T) {
	seed := sample.Seed(201)
	for range 150 {
		was := sample.FitArena(&seed, 5)
		for place := range was.Slots {
			if seed.Below(3) == 0 {
				was.Slots[place].Node = sample.AnyTree(&seed, 4)
			}
		}
		if !Same(was, sample.RoomyArena(was)) {
			t.Fatalf("%v is not the same", was)
		}
		others := otherArenas(was)
		for i, a := range others {
			if Same(a, was) || Same(was, a) {
				t.Fatalf("change %d: %v and %v are the same", i, was, a)
			}
			if !Same(a, sample.RoomyArena(a)) {
				t.Fatalf("%v is not the same", a)
			}
		}
	}
}

// P20.1: arenas with more than can be, and nodes with great trees, all of them together far greater.
func TestSameOfGreat(t *testing.T) {
	great := side(4999)
	made := func() api.Arena {
		a := api.Arena{Roots: make([]int, 9000)}
		for i := range 9000 {
			a.Slots = append(a.Slots, api.Slot{Node: api.Node{To: i}, Kids: []int{i}})
		}
		for i := range 300 {
			a.Slots[i].Node = great
		}
		a.Slots[300].Node = row(1 << 16)
		a.Slots[301].Node = side(4999)
		return a
	}
	a := made()
	if !Same(a, made()) {
		t.Error("not the same")
	}
	for i, f := range []func(a api.Arena){
		func(a api.Arena) { a.Roots[8999]++ },
		func(a api.Arena) { a.Slots[8999].Kids[0]++ },
		func(a api.Arena) { deepest(&a.Slots[300].Node).To++ },
		func(a api.Arena) { a.Slots[301].Node.Kids[4998].Bad++ },
	} {
		b := made()
		if f(b); Same(a, b) || Same(b, a) {
			t.Errorf("change %d: the same", i)
		}
	}
}

// deepest is the first node without Kids.
func deepest(n *api.Node) *api.Node {
	for len(n.Kids) > 0 {
		n = &n.Kids[0]
	}
	return n
}
