package gss

import (
	"iter"
	"slices"

	"bramble/api"
)

// mostLinks is how many links, one after another, are gone back at the most.
const mostLinks = 64

// leadsBack tells whether it can be asked where so many links lead from a node.
func leadsBack(g api.Gss, node, n int) bool {
	return has(g, node) && n >= 0 && n <= mostLinks
}

// behind is the nodes to which one link leads from some nodes, rising, each once. That is all that Back needs: rows can be far more than nodes.
func behind(g api.Gss, from []int) []int {
	met := make([]bool, len(g.Nodes))
	for _, number := range from {
		for _, link := range g.Nodes[number].Links {
			if has(g, link) {
				met[link] = true
			}
		}
	}
	var told []int
	for number, is := range met {
		if is {
			told = append(told, number)
		}
	}
	return told
}

// trail is a stack, and of each node how many links, one after another, lead back from it at the most.
type trail struct {
	api.Gss
	far []int
}

// trailOf counts no further than so many links: a node may lead back to itself.
func trailOf(g api.Gss, n int) trail {
	t := trail{Gss: g, far: make([]int, len(g.Nodes))}
	for links := range n {
		for number, node := range g.Nodes {
			// A link that has just been counted on was as far already, so it does not matter which comes first.
			if slices.ContainsFunc(node.Links, func(link int) bool { return t.leads(link, links) }) {
				t.far[number]++
			}
		}
	}
	return t
}

// leads tells whether a number is a node's from which so many links lead back.
func (t trail) leads(number, links int) bool {
	return has(t.Gss, number) && t.far[number] >= links
}

// rows hands out, in order, the rows that go back by so many links more from the last of the nodes that they begin with. None is begun that could not come to its end: there can be more of these than could ever be gone through. Rows share memory: whoever keeps one copies it.
func (t trail) rows(begun []int, left int) iter.Seq[[]int] {
	return func(yield func([]int) bool) {
		if left == 0 {
			yield(begun)
			return
		}
		for _, link := range t.Nodes[begun[len(begun)-1]].Links {
			if !t.leads(link, left-1) {
				continue
			}
			for row := range t.rows(append(begun, link), left-1) {
				if !yield(row) {
					return
				}
			}
		}
	}
}
