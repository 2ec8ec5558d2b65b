package cursor

import (
	"iter"
	"slices"

	"bramble/api"
)

// mostNumbers is more than the paths of 5000 nodes can have together: those of a tree that is as deep as a call can go would fill all memory.
const mostNumbers = 1 << 25

// told is a path in memory of its own.
func told(path []int, more ...int) []int {
	return slices.Concat(path, more)
}

// has tells whether a node has a kid at a place.
func has(n api.Node, place int) bool {
	return place >= 0 && place < len(n.Kids)
}

// lead is the node to which a path leads: node.Find would copy all that is in it, where a look is enough.
func lead(n api.Node, path []int) (api.Node, bool) {
	for _, place := range path {
		if !has(n, place) {
			return api.Node{}, false
		}
		n = n.Kids[place]
	}
	return n, true
}

// beside is the kid of the same parent that lies so many places behind.
func beside(n api.Node, path []int, by int) ([]int, bool) {
	if len(path) == 0 {
		return nil, false
	}
	up, last := path[:len(path)-1], path[len(path)-1]
	parent, ok := lead(n, up)
	if !ok || !has(parent, last) || !has(parent, last+by) {
		return nil, false
	}
	return told(up, last+by), true
}

// paths hands out the paths of all nodes of a tree, in order, each in memory of its own.
func paths(n api.Node) iter.Seq[[]int] {
	return func(yield func([]int) bool) {
		var walk func(n api.Node, path []int) bool
		walk = func(n api.Node, path []int) bool {
			if !yield(path) {
				return false
			}
			for place, kid := range n.Kids {
				if !walk(kid, told(path, place)) {
					return false
				}
			}
			return true
		}
		walk(n, nil)
	}
}
