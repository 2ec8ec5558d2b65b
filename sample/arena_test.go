package sample

import (
	"reflect"
	"testing"

	"bramble/api"
)

func TestTreeOf(t *testing.T) {
	for s, want := range map[string]api.Node{
		"":                       {},
		"a":                      {Kind: "a"},
		" a@1,20 ":               {Kind: "a", From: 1, To: 20},
		"a@-3,z":                 {Kind: "a", From: -3, To: -9},
		"a()":                    {Kind: "a"},
		"a@0,2(b)":               {Kind: "a", To: 2, Kids: []api.Node{{Kind: "b"}}},
		"a( b@1,1(c d)e (@3,4))": {Kind: "a", Kids: []api.Node{{Kind: "b", From: 1, To: 1, Kids: []api.Node{{Kind: "c"}, {Kind: "d"}}}, {Kind: "e"}, {Kids: []api.Node{{From: 3, To: 4}}}}},
	} {
		if got := TreeOf(s); !reflect.DeepEqual(got, want) {
			t.Errorf("%q: %v, not %v", s, got, want)
		}
	}
}

func TestArenaOf(t *testing.T) {
	slots := []api.Slot{
		{Node: api.Node{Kind: "a", To: 2}, Kids: []int{1, 1}, Refs: 1, Next: -1},
		{Node: api.Node{Kind: "b"}, Refs: 2, Next: 7},
		{Next: -1},
		{Next: 2},
		{Node: api.Node{From: 1, To: 2}, Kids: []int{-9}, Refs: -1, Next: -1},
	}
	want := api.Arena{Free: 3, Roots: []int{0, -1}, Slots: slots}
	if got := ArenaOf("3 | 0 -1 | a@0,2*1:1,1 b*2>7 >-1 >2 @1,2*-1:z"); !reflect.DeepEqual(got, want) {
		t.Errorf("%v, not %v", got, want)
	}
	if got := ArenaOf("-1 | |"); !reflect.DeepEqual(got, api.Arena{Free: -1}) {
		t.Errorf("%v", got)
	}
}

// fitArena tells whether an arena of few slots is fit, all its Kids behind nothing but slots ahead.
func fitArena(a api.Arena) bool {
	refs, free := make([]int, len(a.Slots)), 0
	for _, root := range a.Roots {
		if root >= 0 {
			refs[root]++
		}
	}
	for place, slot := range a.Slots {
		for _, kid := range slot.Kids {
			if kid >= place {
				return false
			}
			refs[kid]++
		}
		if slot.Refs == 0 {
			free++
			if !isNone(slot.Node) || len(slot.Kids) > 0 {
				return false
			}
		} else if slot.Next != -1 || slot.Node.To != place {
			return false
		}
	}
	for place, slot := range a.Slots {
		if slot.Refs != refs[place] {
			return false
		}
	}
	met := map[int]int{}
	for at := a.Free; at != -1 && len(met) < free; at = a.Slots[at].Next {
		if a.Slots[at].Refs > 0 {
			return false
		}
		met[at]++
	}
	return len(met) == free
}

func TestFitArena(t *testing.T) {
	a, b := Seed(5), Seed(5)
	slots, roots, frees, kids, refs := make([]int, 9), make([]int, 4), make([]int, 9), make([]int, 4), make([]int, 4)
	for range 1000 {
		x := FitArena(&a, 8)
		if !reflect.DeepEqual(x, FitArena(&b, 8)) {
			t.Fatal("a seed tells other arenas")
		}
		if !fitArena(x) || x.Slots != nil && len(x.Slots) == 0 {
			t.Fatalf("%v", x)
		}
		slots[len(x.Slots)]++
		roots[len(x.Roots)]++
		free := 0
		for _, slot := range x.Slots {
			kids[len(slot.Kids)]++
			refs[min(slot.Refs, 3)]++
			if slot.Refs == 0 {
				free++
			}
		}
		frees[free]++
	}
	for _, seen := range [][]int{slots, roots, frees, kids, refs} {
		for number, many := range seen {
			if many == 0 {
				t.Errorf("none of %d: %v", number, seen)
			}
		}
	}
}

func TestBentArena(t *testing.T) {
	a, b := Seed(5), Seed(5)
	seen := map[string]int{}
	for range 2000 {
		was := FitArena(&a, 6)
		given := RoomyArena(was)
		got := BentArena(&a, given)
		if !reflect.DeepEqual(got, BentArena(&b, FitArena(&b, 6))) {
			t.Fatal("a seed tells other arenas")
		}
		if !reflect.DeepEqual(given, RoomyArena(was)) || !ArenaRoomStays(given) {
			t.Fatalf("%v has changed: %v", was, given)
		}
		if got.Free != was.Free {
			seen["Free"]++
		}
		if !reflect.DeepEqual(got.Roots, RoomyList(was.Roots)) {
			seen["Roots"]++
		}
		for place, slot := range RoomyArena(was).Slots {
			other := got.Slots[place]
			if other.Refs != slot.Refs {
				seen["Refs"]++
			}
			if other.Next != slot.Next {
				seen["Next"]++
			}
			if !reflect.DeepEqual(other.Kids, slot.Kids) {
				seen["Kids"]++
			}
			if !reflect.DeepEqual(other.Node, slot.Node) {
				seen["Node"]++
			}
			if len(other.Node.Kids) > 0 {
				seen["Node.Kids"]++
			}
		}
	}
	if len(seen) != 7 {
		t.Errorf("%v", seen)
	}
}

func TestRoomyArena(t *testing.T) {
	made := func() api.Arena {
		a := RoomyArena(ArenaOf("2 | 0 0 | a*2:1 b*1 >-1"))
		a.Slots[0].Node.Kids = append(a.Slots[0].Node.Kids, RoomyTree(TreeOf("k")))
		return a
	}
	a := made()
	roomy := RoomyArena(a)
	if !ArenaRoomStays(roomy) || !reflect.DeepEqual(a, roomy) {
		t.Fatalf("%v", roomy)
	}
	for i, grow := range []func(api.Arena){
		func(a api.Arena) { _ = append(a.Roots, 7) },
		func(a api.Arena) { _ = append(a.Slots, api.Slot{Refs: 1}) },
		func(a api.Arena) { _ = append(a.Slots, api.Slot{Next: -1}) },
		func(a api.Arena) { _ = append(a.Slots, api.Slot{Kids: []int{}}) },
		func(a api.Arena) { _ = append(a.Slots, api.Slot{Node: api.Node{From: 1}}) },
		func(a api.Arena) { _ = append(a.Slots[0].Kids, 7) },
		func(a api.Arena) { _ = append(a.Slots[2].Kids, 0, 7) },
		func(a api.Arena) { _ = append(a.Slots[0].Node.Kids, api.Node{Bad: 1}) },
		func(a api.Arena) { _ = append(a.Slots[1].Node.Kids, api.Node{Kind: "a"}) },
	} {
		b := RoomyArena(a)
		if grow(b); ArenaRoomStays(b) {
			t.Errorf("growth %d is not seen", i)
		}
	}
	roomy.Roots[0], roomy.Slots[1].Refs, roomy.Slots[0].Kids[0], roomy.Slots[0].Node.Kids[0].To = 9, 9, 9, 9
	if !reflect.DeepEqual(a, made()) {
		t.Error("memory is shared")
	}
}

// walks tells whether each of many steps leads on.
func walks(at int, step func(at int) int) bool {
	for range 40 {
		if at < 0 {
			return false
		}
		at = step(at)
	}
	return true
}

// Of each there is something that leads on, again and again.
func TestEndlessArenas(t *testing.T) {
	for i, a := range EndlessArenas() {
		root := 0
		if len(a.Roots) > 0 {
			root = a.Roots[0]
		}
		frees := walks(a.Free, func(at int) int { return a.Slots[at].Next })
		kids := walks(root, func(at int) int { return append(a.Slots[at].Kids, -1)[0] })
		n := a.Slots[0].Node
		trees := walks(0, func(int) int {
			if len(n.Kids) == 0 {
				return -1
			}
			n = n.Kids[len(n.Kids)-1]
			return 0
		})
		if !frees && !kids && !trees {
			t.Errorf("arena %d ends", i)
		}
	}
}
