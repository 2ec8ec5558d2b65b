package sample

import (
	"slices"

	"bramble/api"
)

// Name is a node of a stack by its At and its State.
type Name [2]int

// NameOf is the name of the node of a number.
func NameOf(g api.Gss, number int) Name {
	return Name{g.Nodes[number].At, g.Nodes[number].State}
}

// Pile is the nodes of a stack, each with those behind it, by their names: without any order that the nodes have by themselves, so that what is told of stacks can be held against it.
type Pile map[Name]map[Name]int

// PileOf is the nodes of some stacks, with all their links.
func PileOf(stacks ...api.Gss) Pile {
	p := Pile{}
	for _, g := range stacks {
		for number, node := range g.Nodes {
			p.Put(NameOf(g, number))
			for _, link := range node.Links {
				p.Put(NameOf(g, number), NameOf(g, link))
			}
		}
	}
	return p
}

// Put puts a node into a pile, if it is not there, with links to some.
func (p Pile) Put(node Name, links ...Name) {
	if p[node] == nil {
		p[node] = map[Name]int{}
	}
	for _, link := range links {
		p[node][link] = 1
	}
}

// Links is how many links a pile has.
func (p Pile) Links() int {
	all := 0
	for _, behind := range p {
		all += len(behind)
	}
	return all
}

// Number is how many nodes of a pile are ahead of one, by At, then by State.
func (p Pile) Number(node Name) int {
	ahead := 0
	for other := range p {
		if other[0] < node[0] || other[0] == node[0] && other[1] < node[1] {
			ahead++
		}
	}
	return ahead
}

// Stack is the stack that has just what is in a pile.
func (p Pile) Stack() api.Gss {
	if len(p) == 0 {
		return api.Gss{}
	}
	g := api.Gss{Nodes: make([]api.Gnode, len(p))}
	for node, behind := range p {
		var links []int
		for link := range behind {
			links = append(links, p.Number(link))
		}
		slices.Sort(links)
		g.Nodes[p.Number(node)] = api.Gnode{State: node[1], At: node[0], Links: links}
	}
	return g
}

// Within tells whether all that is in a pile is in another one, too.
func (p Pile) Within(other Pile) bool {
	for node, behind := range p {
		if other[node] == nil {
			return false
		}
		for link := range behind {
			if other[node][link] == 0 {
				return false
			}
		}
	}
	return true
}
