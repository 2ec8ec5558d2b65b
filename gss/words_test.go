package gss

import (
	"slices"

	"bramble/api"
)

// What follows says the chapter's words once more, without any order that a stack's nodes have by themselves, so that the calls can be held against them.

// name is a node by its At and its State.
type name [2]int

func nameOf(g api.Gss, number int) name {
	return name{g.Nodes[number].At, g.Nodes[number].State}
}

// pile is the nodes of a stack, each with those behind it, by their names.
type pile map[name]map[name]int

// put puts a node into a pile, if it is not there, with links to some.
func (p pile) put(node name, links ...name) {
	if p[node] == nil {
		p[node] = map[name]int{}
	}
	for _, link := range links {
		p[node][link] = 1
	}
}

// pileOf is the nodes of some stacks, with all their links.
func pileOf(stacks ...api.Gss) pile {
	p := pile{}
	for _, g := range stacks {
		for number, node := range g.Nodes {
			p.put(nameOf(g, number))
			for _, link := range node.Links {
				p.put(nameOf(g, number), nameOf(g, link))
			}
		}
	}
	return p
}

// links is how many links a pile has.
func (p pile) links() int {
	all := 0
	for _, behind := range p {
		all += len(behind)
	}
	return all
}

// number is how many nodes of a pile are ahead of one, by At, then by State.
func (p pile) number(node name) int {
	ahead := 0
	for other := range p {
		if other[0] < node[0] || other[0] == node[0] && other[1] < node[1] {
			ahead++
		}
	}
	return ahead
}

// stack is the stack that has just what is in a pile.
func (p pile) stack() api.Gss {
	if len(p) == 0 {
		return api.Gss{}
	}
	g := api.Gss{Nodes: make([]api.Gnode, len(p))}
	for node, behind := range p {
		var links []int
		for link := range behind {
			links = append(links, p.number(link))
		}
		slices.Sort(links)
		g.Nodes[p.number(node)] = api.Gnode{State: node[1], At: node[0], Links: links}
	}
	return g
}

// within tells whether all that is in a pile is in another one, too.
func (p pile) within(other pile) bool {
	for node, behind := range p {
		if other[node] == nil {
			return false
		}
		for link := range behind {
			if other[node][link] == 0 {
				return false
			}
		}
	}
	return true
}

func isIn(n, least, greatest int) bool {
	return !(n < least) && !(n > greatest)
}

func fitByWords(g api.Gss) bool {
	if len(g.Nodes) > 4096 {
		return false
	}
	for i, node := range g.Nodes {
		if !isIn(node.State, 0, 65535) || !isIn(node.At, 0, 65535) {
			return false
		}
		for _, later := range g.Nodes[i+1:] {
			if later.At < node.At || later.At == node.At && later.State <= node.State {
				return false
			}
		}
		for k, link := range node.Links {
			if !isIn(link, 0, len(g.Nodes)-1) || g.Nodes[link].At > node.At {
				return false
			}
			for _, later := range node.Links[k+1:] {
				if later <= link {
					return false
				}
			}
		}
	}
	return true
}

func findByWords(g api.Gss, state, at int) int {
	for number, node := range g.Nodes {
		if node.State == state && node.At == at {
			return number
		}
	}
	return -1
}

func topByWords(g api.Gss, at int) []int {
	var told []int
	for number := 0; number < len(g.Nodes); number++ {
		if g.Nodes[number].At == at {
			told = append(told, number)
		}
	}
	return told
}

func pushByWords(g api.Gss, from, state, at int) (api.Gss, int, bool) {
	if !isIn(from, 0, len(g.Nodes)-1) || at < g.Nodes[from].At || !isIn(state, 0, 65535) || !isIn(at, 0, 65535) {
		return g, -1, false
	}
	p := pileOf(g)
	nodes, links := len(p), p.links()
	p.put(name{at, state}, nameOf(g, from))
	if len(p) > 4096 {
		return g, -1, false
	}
	return p.stack(), p.number(name{at, state}), len(p) > nodes || p.links() > links
}

// pathsByWords goes through all rows of as many numbers, in their order, and takes those in which each has a link to the next one.
func pathsByWords(g api.Gss, node, n int) [][]int {
	if !isIn(node, 0, len(g.Nodes)-1) || !isIn(n, 0, 64) {
		return nil
	}
	rows := [][]int{{node}}
	for range n {
		var longer [][]int
		for _, row := range rows {
			for number := range g.Nodes {
				if slices.Contains(g.Nodes[row[len(row)-1]].Links, number) {
					longer = append(longer, append(slices.Clone(row), number))
				}
			}
		}
		rows = longer
	}
	return rows
}

// backByWords asks of each node whether so many links lead to it.
func backByWords(g api.Gss, node, n int) []int {
	if !isIn(node, 0, len(g.Nodes)-1) || !isIn(n, 0, 64) {
		return nil
	}
	var told []int
	for number := range g.Nodes {
		if leadsByWords(g, node, number, n) {
			told = append(told, number)
		}
	}
	return told
}

func leadsByWords(g api.Gss, from, to, n int) bool {
	if n == 0 {
		return from == to
	}
	for _, link := range g.Nodes[from].Links {
		if leadsByWords(g, link, to, n-1) {
			return true
		}
	}
	return false
}

func mergeByWords(a, b api.Gss) api.Gss {
	p := pileOf(a, b)
	if len(p) > 4096 {
		return a
	}
	return p.stack()
}
