package arena

import (
	"slices"

	"bramble/api"
)

// What an arena has at most, beside its slots, to be fit.
const (
	fitNodes    = 5000 // of a handle's tree
	mostHandles = 4096
)

// framed tells whether an arena is fit, its trees of at most so many nodes, but for slots that are alike.
func framed(a api.Arena, most int) bool {
	return len(a.Slots) <= api.MaxSlots && len(a.Roots) <= mostHandles &&
		fitSlots(a) && fitFree(a) && fitRoots(a) && fitRefs(a) && fitTrees(a, most)
}

// isSlot tells whether a place is a slot's.
func isSlot(a api.Arena, place int) bool {
	return place >= 0 && place < len(a.Slots)
}

// keeps tells whether a number is a handle that is not released.
func keeps(a api.Arena, h int) bool {
	return h >= 0 && h < len(a.Roots) && a.Roots[h] >= 0
}

// fitSlots tells whether each slot holds what it may. Whether Kids are live is left to fitRefs: a free one that something refers to has too few Refs.
func fitSlots(a api.Arena) bool {
	for _, slot := range a.Slots {
		if len(slot.Node.Kids) > 0 || slot.Refs < 0 {
			return false
		}
		if slot.Refs == 0 && heldOf(slot.Node, slot.Kids) != (held{}) {
			return false
		}
		if slot.Refs > 0 && (slot.Next != -1 || !areSlots(a, slot.Kids)) {
			return false
		}
	}
	return true
}

func areSlots(a api.Arena, places []int) bool {
	return !slices.ContainsFunc(places, func(place int) bool { return !isSlot(a, place) })
}

// fitFree tells whether one comes to each free slot once.
func fitFree(a api.Arena) bool {
	left := len(a.Slots) - Live(a)
	for place := a.Free; place != -1; place = a.Slots[place].Next {
		// Who comes to one twice comes to more than there are.
		if left == 0 || !isSlot(a, place) || a.Slots[place].Refs > 0 {
			return false
		}
		left--
	}
	return left == 0
}

// fitRoots leaves it to fitRefs, too, whether a root is live.
func fitRoots(a api.Arena) bool {
	for _, root := range a.Roots {
		if root != -1 && !isSlot(a, root) {
			return false
		}
	}
	return true
}

// fitRefs tells whether each slot has as many Refs as there are places that refer to it; all of these must be slots'.
func fitRefs(a api.Arena) bool {
	refs := make([]int, len(a.Slots))
	for _, slot := range a.Slots {
		for _, kid := range slot.Kids {
			refs[kid]++
		}
	}
	for _, root := range a.Roots {
		if root != -1 {
			refs[root]++
		}
	}
	for place, slot := range a.Slots {
		if slot.Refs != refs[place] {
			return false
		}
	}
	return true
}

// fitTrees tells whether no slot is within itself, all live ones are within some root's, and no handle's tree has more nodes than may be.
func fitTrees(a api.Arena, most int) bool {
	sizes := make([]int, len(a.Slots))
	met := 0
	for place := range within(a, a.Roots...) {
		size := 1
		for _, kid := range a.Slots[place].Kids {
			// Kids come ahead of what they are kids of, so that one that has not come yet has it within itself.
			if sizes[kid] == 0 {
				return false
			}
			size += sizes[kid]
			if size > most {
				return false
			}
		}
		sizes[place] = size
		met++
	}
	return met == Live(a)
}
