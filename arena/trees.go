package arena

import (
	"iter"
	"slices"

	"bramble/api"
)

// What is greater has no end, as far as a call goes: a list can hold itself. These are far more nodes than the chapter speaks of, as a text can have such a tree, too.
const (
	mostNodes = 1 << 20
	mostDeep  = 1 << 16
)

// within hands out the slots within some roots', each once, kids ahead of what they are kids of, from the left.
func within(a api.Arena, roots ...int) iter.Seq[int] {
	return func(yield func(int) bool) {
		met := make([]bool, len(a.Slots))
		var walk func(place int) bool
		walk = func(place int) bool {
			if met[place] {
				return true
			}
			met[place] = true
			for _, kid := range a.Slots[place].Kids {
				if !walk(kid) {
					return false
				}
			}
			return yield(place)
		}
		for _, root := range roots {
			if root != -1 && !walk(root) {
				return
			}
		}
	}
}

// treeOf is the tree of a slot, its places counted from some other one on.
func treeOf(a api.Arena, place, from int) api.Node {
	slot := a.Slots[place]
	n := slot.Node
	n.From += from
	n.To += from
	n.Kids = nil
	for _, kid := range slot.Kids {
		n.Kids = append(n.Kids, treeOf(a, kid, n.From))
	}
	return n
}

// ends tells whether a tree has an end, as far as a call goes.
func ends(n api.Node) bool {
	return left(n, mostNodes, mostDeep) >= 0
}

// left is how many of so many nodes a tree leaves; below 0, if it has more, or more than so many within one another.
func left(n api.Node, nodes, deep int) int {
	nodes--
	if deep == 0 {
		return -1
	}
	for _, kid := range n.Kids {
		if nodes < 0 {
			return -1
		}
		nodes = left(kid, nodes, deep-1)
	}
	return nodes
}

// sameSlot tells of no node that has no end that it is the same as another one.
func sameSlot(a, b api.Slot) bool {
	return a.Refs == b.Refs && a.Next == b.Next && slices.Equal(a.Kids, b.Kids) && ends(a.Node) && sameNode(a.Node, b.Node)
}

// sameNode is asked of a first node that ends: the second one is gone through no farther than that.
func sameNode(a, b api.Node) bool {
	return heldOf(a, nil) == heldOf(b, nil) && slices.EqualFunc(a.Kids, b.Kids, sameNode)
}

// copied is an arena in memory of its own.
func copied(a api.Arena) api.Arena {
	made := api.Arena{Slots: append([]api.Slot(nil), a.Slots...), Free: a.Free, Roots: append([]int(nil), a.Roots...)}
	for place, slot := range a.Slots {
		made.Slots[place].Node.Kids = nil
		made.Slots[place].Kids = append([]int(nil), slot.Kids...)
	}
	return made
}
