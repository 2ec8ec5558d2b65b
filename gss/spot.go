package gss

import (
	"cmp"
	"slices"

	"bramble/api"
)

// most is the greatest State, and the greatest At.
const most = 65535

// spot is what tells a node from all others of its stack.
type spot struct {
	at    int
	state int
}

func spotOf(node api.Gnode) spot {
	return spot{at: node.At, state: node.State}
}

// compare is the order of nodes.
func compare(a, b spot) int {
	return cmp.Or(cmp.Compare(a.at, b.at), cmp.Compare(a.state, b.state))
}

// seek is the number that the node of a spot has, or would have, and whether it is there.
func seek(g api.Gss, s spot) (int, bool) {
	return slices.BinarySearchFunc(g.Nodes, s, func(node api.Gnode, s spot) int { return compare(spotOf(node), s) })
}

// canBe tells whether a number can be a State, or an At.
func canBe(n int) bool {
	return n >= 0 && n <= most
}

// has tells whether a number is a node's.
func has(g api.Gss, number int) bool {
	return number >= 0 && number < len(g.Nodes)
}

// fitAlone tells whether a node is fit, wherever it stands among the others.
func fitAlone(g api.Gss, node api.Gnode) bool {
	if !canBe(node.State) || !canBe(node.At) {
		return false
	}
	ahead := -1
	for _, link := range node.Links {
		if link <= ahead || !has(g, link) || g.Nodes[link].At > node.At {
			return false
		}
		ahead = link
	}
	return true
}

// copied is a stack in memory of its own.
func copied(g api.Gss) api.Gss {
	var made api.Gss
	for _, node := range g.Nodes {
		node.Links = append([]int(nil), node.Links...)
		made.Nodes = append(made.Nodes, node)
	}
	return made
}

// opened is a stack with one node more, those from its number on told anew. The stack is changed: it must be the caller's own.
func opened(g api.Gss, number int, node api.Gnode) api.Gss {
	for _, other := range g.Nodes {
		for i, link := range other.Links {
			if link >= number {
				other.Links[i]++
			}
		}
	}
	return api.Gss{Nodes: slices.Insert(g.Nodes, number, node)}
}
