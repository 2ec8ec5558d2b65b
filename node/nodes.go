package node

import (
	"iter"

	"bramble/api"
)

// What is greater has no end, as far as a call goes: a list can hold itself. These are far more nodes than the chapter speaks of, as a text can have more tokens than that.
const (
	mostNodes = 1 << 20
	mostDeep  = 1 << 16
)

// nodes hands out the nodes of a tree, each ahead of its kids, these from the left; with each how many there are from the root down to it.
func nodes(n api.Node) iter.Seq2[api.Node, int] {
	return func(yield func(api.Node, int) bool) {
		var walk func(n api.Node, deep int) bool
		walk = func(n api.Node, deep int) bool {
			if !yield(n, deep) {
				return false
			}
			for _, kid := range n.Kids {
				if !walk(kid, deep+1) {
					return false
				}
			}
			return true
		}
		walk(n, 1)
	}
}

// measure is how many nodes a tree has, and how many within one another; false, if it has no end.
func measure(n api.Node) (all, deepest int, ok bool) {
	for _, deep := range nodes(n) {
		all++
		deepest = max(deepest, deep)
		if all > mostNodes || deep > mostDeep {
			return 0, 0, false
		}
	}
	return all, deepest, true
}

// ends is asked ahead of all that goes through a whole tree, so that nothing else has to count.
func ends(n api.Node) bool {
	_, _, ok := measure(n)
	return ok
}

// same is asked of a first tree that ends: the second one is gone through no farther than that.
func same(a, b api.Node) bool {
	if a.Kind != b.Kind || a.Named != b.Named || a.Field != b.Field || a.From != b.From || a.To != b.To || a.Bad != b.Bad || len(a.Kids) != len(b.Kids) {
		return false
	}
	for i, kid := range a.Kids {
		if !same(kid, b.Kids[i]) {
			return false
		}
	}
	return true
}

// moved is a tree in memory of its own, with so much more at each place; int wraps round by itself.
func moved(n api.Node, by int) api.Node {
	var kids []api.Node
	for _, kid := range n.Kids {
		kids = append(kids, moved(kid, by))
	}
	n.From += by
	n.To += by
	n.Kids = kids
	return n
}
