package arena

import (
	"slices"

	"bramble/api"
	"bramble/sample"
)

// What follows says the chapter's words once more, each slot by itself, so that the calls can be held against them.

// isAlike tells whether two slots hold the same.
func isAlike(a, b api.Slot) bool {
	n, m := a.Node, b.Node
	return n.Kind == m.Kind && n.Named == m.Named && n.Field == m.Field && n.Bad == m.Bad && n.From == m.From && n.To == m.To && slices.Equal(a.Kids, b.Kids)
}

func isPlace(a api.Arena, place int) bool {
	return place > -1 && place < len(a.Slots)
}

func fitByWords(a api.Arena) bool {
	if len(a.Slots) > 4096 || len(a.Roots) > 4096 {
		return false
	}
	for _, slot := range a.Slots {
		if slot.Refs < 0 || len(slot.Node.Kids) > 0 {
			return false
		}
		if slot.Refs == 0 && !isAlike(slot, api.Slot{}) || slot.Refs > 0 && slot.Next != -1 {
			return false
		}
	}
	for _, root := range a.Roots {
		if root != -1 && (!isPlace(a, root) || a.Slots[root].Refs == 0) {
			return false
		}
	}
	return freeByWords(a) && countsByWords(a) && withinByWords(a)
}

// freeByWords tells whether the row of free slots has all of them, each once, and nothing else.
func freeByWords(a api.Arena) bool {
	var row []int
	for at := a.Free; at != -1; at = a.Slots[at].Next {
		if !isPlace(a, at) || a.Slots[at].Refs != 0 || slices.Contains(row, at) {
			return false
		}
		row = append(row, at)
	}
	for place, slot := range a.Slots {
		if slot.Refs == 0 && !slices.Contains(row, place) {
			return false
		}
	}
	return true
}

// countsByWords tells whether each live slot has as many Refs as refer to it, and is like no other one.
func countsByWords(a api.Arena) bool {
	for place, slot := range a.Slots {
		refs := 0
		for other, x := range a.Slots {
			for _, kid := range x.Kids {
				if !isPlace(a, kid) || a.Slots[kid].Refs == 0 {
					return false
				}
				if kid == place {
					refs++
				}
			}
			if slot.Refs > 0 && x.Refs > 0 && other != place && isAlike(slot, x) {
				return false
			}
		}
		for _, root := range a.Roots {
			if root == place {
				refs++
			}
		}
		if slot.Refs != refs {
			return false
		}
	}
	return true
}

// insideByWords is what is within a slot's Kids: it grows till nothing is new.
func insideByWords(a api.Arena, place int) map[int]int {
	inside := map[int]int{}
	for _, kid := range a.Slots[place].Kids {
		inside[kid]++
	}
	for before := -1; before < len(inside); {
		before = len(inside)
		for other := range a.Slots {
			if inside[other] > 0 {
				for _, kid := range a.Slots[other].Kids {
					inside[kid]++
				}
			}
		}
	}
	for other := range inside {
		if inside[other] == 0 {
			delete(inside, other)
		}
	}
	return inside
}

// withinByWords tells whether no slot is within itself, and all live ones within some root's, whose trees are not too great.
func withinByWords(a api.Arena) bool {
	all := map[int]int{}
	for place := range a.Slots {
		inside := insideByWords(a, place)
		if inside[place] > 0 {
			return false
		}
		if slices.Contains(a.Roots, place) {
			all[place]++
			for other := range inside {
				all[other]++
			}
		}
	}
	for place, slot := range a.Slots {
		if slot.Refs > 0 && all[place] == 0 {
			return false
		}
	}
	for _, root := range a.Roots {
		if root != -1 && restByWords(a, root, 5000) < 0 {
			return false
		}
	}
	return true
}

// restByWords is how many of so many nodes the tree of a slot leaves, node by node.
func restByWords(a api.Arena, place, rest int) int {
	rest--
	for _, kid := range a.Slots[place].Kids {
		if rest >= 0 {
			rest = restByWords(a, kid, rest)
		}
	}
	return rest
}

// part is a node of a tree, and which of the nodes ahead of it are its Kids.
type part struct {
	node api.Node
	kids []int
}

// partsOf is the nodes of a tree, kids ahead of what they are kids of, from the left; its places counted from some other one on.
func partsOf(n api.Node, from uint64, ahead []part) []part {
	var kids []int
	for _, kid := range n.Kids {
		ahead = partsOf(kid, uint64(n.From), ahead)
		kids = append(kids, len(ahead)-1)
	}
	n.From, n.To, n.Kids = int(uint64(n.From)-from), int(uint64(n.To)-from), nil
	return append(ahead, part{n, kids})
}

func addByWords(a api.Arena, n api.Node) (api.Arena, int, api.Errno) {
	if len(a.Roots) >= 4096 {
		return a, 0, api.ErrMany
	}
	made := sample.RoomyArena(a)
	var places []int
	laid := map[int]int{}
	for _, p := range partsOf(n, 0, nil) {
		want := api.Slot{Node: p.node, Next: -1}
		for _, kid := range p.kids {
			want.Kids = append(want.Kids, places[kid])
		}
		place := slices.IndexFunc(made.Slots, func(s api.Slot) bool { return isAlike(s, want) })
		for place >= 0 && made.Slots[place].Refs == 0 && laid[place] == 0 { // a free one, which holds a node that has nothing, too
			next := slices.IndexFunc(made.Slots[place+1:], func(s api.Slot) bool { return isAlike(s, want) })
			place += next + 1
			if next < 0 {
				place = -1
			}
		}
		if place < 0 {
			if made.Free >= 0 {
				place, made.Free = made.Free, made.Slots[made.Free].Next
			} else if place = len(made.Slots); place >= 4096 {
				return a, 0, api.ErrFull
			} else {
				made.Slots = append(made.Slots, api.Slot{})
			}
			laid[place] = 1
			made.Slots[place] = want
			for _, kid := range want.Kids {
				made.Slots[kid].Refs++
			}
		}
		places = append(places, place)
	}
	root := places[len(places)-1]
	made.Slots[root].Refs++
	made.Roots = append(made.Roots, root)
	return made, len(made.Roots) - 1, api.OK
}

func dropByWords(a api.Arena, h int) (api.Arena, api.Errno) {
	if h < 0 || h >= len(a.Roots) || a.Roots[h] == -1 {
		return a, api.ErrNone
	}
	made := sample.RoomyArena(a)
	less := []int{made.Roots[h]} // the slots that are to have a Ref less, the next one last
	made.Roots[h] = -1
	for len(less) > 0 {
		place := less[len(less)-1]
		less = less[:len(less)-1]
		slot := &made.Slots[place]
		if slot.Refs--; slot.Refs == 0 {
			kids := slices.Clone(slot.Kids)
			slices.Reverse(kids)
			less = append(less, kids...)
			*slot = api.Slot{Next: made.Free}
			made.Free = place
		}
	}
	return made, api.OK
}

func readByWords(a api.Arena, h int) (api.Node, api.Errno) {
	if h < 0 || h >= len(a.Roots) || a.Roots[h] == -1 {
		return api.Node{}, api.ErrNone
	}
	return shiftedByWords(a, a.Roots[h], 0), api.OK
}

func shiftedByWords(a api.Arena, place int, from uint64) api.Node {
	n := a.Slots[place].Node
	n.From, n.To = int(uint64(n.From)+from), int(uint64(n.To)+from)
	for _, kid := range a.Slots[place].Kids {
		n.Kids = append(n.Kids, shiftedByWords(a, kid, uint64(n.From)))
	}
	return n
}

func sharedByWords(a api.Arena, g, h int) int {
	for _, x := range []int{g, h} {
		if x < 0 || x >= len(a.Roots) || a.Roots[x] == -1 {
			return 0
		}
	}
	both := 0
	first, second := insideByWords(a, a.Roots[g]), insideByWords(a, a.Roots[h])
	first[a.Roots[g]]++
	second[a.Roots[h]]++
	for place := range first {
		if second[place] > 0 {
			both++
		}
	}
	return both
}

func liveByWords(a api.Arena) int {
	live := len(a.Slots)
	for at := a.Free; at != -1; at = a.Slots[at].Next {
		live--
	}
	return live
}
