package gss

import (
	"slices"

	"bramble/api"
	"bramble/sample"
)

// What follows says the chapter's words once more, by piles, so that the calls can be held against them.

func isIn(n, least, greatest int) bool {
	return !(n < least) && !(n > greatest)
}

func fitByWords(g api.Gss) bool {
	if len(g.Nodes) > 4096 {
		return false
	}
	for i, node := range g.Nodes {
		if !isIn(node.State, 0, 65535) || !isIn(node.At, 0, 65535) {
			return false
		}
		for _, later := range g.Nodes[i+1:] {
			if later.At < node.At || later.At == node.At && later.State <= node.State {
				return false
			}
		}
		for k, link := range node.Links {
			if !isIn(link, 0, len(g.Nodes)-1) || g.Nodes[link].At > node.At {
				return false
			}
			for _, later := range node.Links[k+1:] {
				if later <= link {
					return false
				}
			}
		}
	}
	return true
}

func findByWords(g api.Gss, state, at int) int {
	for number, node := range g.Nodes {
		if node.State == state && node.At == at {
			return number
		}
	}
	return -1
}

func topByWords(g api.Gss, at int) []int {
	var told []int
	for number := 0; number < len(g.Nodes); number++ {
		if g.Nodes[number].At == at {
			told = append(told, number)
		}
	}
	return told
}

func pushByWords(g api.Gss, from, state, at int) (api.Gss, int, bool) {
	if !isIn(from, 0, len(g.Nodes)-1) || at < g.Nodes[from].At || !isIn(state, 0, 65535) || !isIn(at, 0, 65535) {
		return g, -1, false
	}
	p := sample.PileOf(g)
	nodes, links := len(p), p.Links()
	p.Put(sample.Name{at, state}, sample.NameOf(g, from))
	if len(p) > 4096 {
		return g, -1, false
	}
	return p.Stack(), p.Number(sample.Name{at, state}), len(p) > nodes || p.Links() > links
}

// pathsByWords goes through all rows of as many numbers, in their order, and takes those in which each has a link to the next one.
func pathsByWords(g api.Gss, node, n int) [][]int {
	if !isIn(node, 0, len(g.Nodes)-1) || !isIn(n, 0, 64) {
		return nil
	}
	rows := [][]int{{node}}
	for range n {
		var longer [][]int
		for _, row := range rows {
			for number := range g.Nodes {
				if slices.Contains(g.Nodes[row[len(row)-1]].Links, number) {
					longer = append(longer, append(slices.Clone(row), number))
				}
			}
		}
		rows = longer
	}
	return rows
}

// backByWords asks of each node whether so many links lead to it.
func backByWords(g api.Gss, node, n int) []int {
	if !isIn(node, 0, len(g.Nodes)-1) || !isIn(n, 0, 64) {
		return nil
	}
	var told []int
	for number := range g.Nodes {
		if leadsByWords(g, node, number, n) {
			told = append(told, number)
		}
	}
	return told
}

func leadsByWords(g api.Gss, from, to, n int) bool {
	if n == 0 {
		return from == to
	}
	for _, link := range g.Nodes[from].Links {
		if leadsByWords(g, link, to, n-1) {
			return true
		}
	}
	return false
}

func mergeByWords(a, b api.Gss) api.Gss {
	p := sample.PileOf(a, b)
	if len(p) > 4096 {
		return a
	}
	return p.Stack()
}
