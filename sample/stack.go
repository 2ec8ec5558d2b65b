package sample

import (
	"cmp"
	"iter"
	"slices"
	"strings"

	"bramble/api"
)

// StackOf is a stack by its nodes, as in "0@0 7@1:0 3@2:0,1": the State, the At, and the Links. What can't be read is -9, so that the stack is not fit.
func StackOf(s string) api.Gss {
	var g api.Gss
	for word := range strings.FieldsSeq(s) {
		word, links, linked := strings.Cut(word, ":")
		state, at, _ := strings.Cut(word, "@")
		node := api.Gnode{State: number(state), At: number(at)}
		if linked {
			for link := range strings.SplitSeq(links, ",") {
				node.Links = append(node.Links, number(link))
			}
		}
		g.Nodes = append(g.Nodes, node)
	}
	return g
}

// StackOfMany is a stack of so many nodes without links, so many at each place, the states of each a given step from one another.
func StackOfMany(nodes, each, step int) api.Gss {
	var g api.Gss
	for i := range nodes {
		g.Nodes = append(g.Nodes, api.Gnode{State: i % each * step, At: i / each})
	}
	return g
}

// Stacks hands out every fit stack of at most so many nodes, their States and their Ats below so much, each in memory of its own.
func Stacks(nodes, states, ats int) iter.Seq[api.Gss] {
	return func(yield func(api.Gss) bool) {
		for all := range bareStacks(nil, nodes, states, ats) {
			if !handLinks(all, 0, yield) {
				return
			}
		}
	}
}

// bareStacks hands out every row of nodes without links that begins with some.
func bareStacks(begun []api.Gnode, more, states, ats int) iter.Seq[[]api.Gnode] {
	return func(yield func([]api.Gnode) bool) {
		if !yield(begun) || more == 0 {
			return
		}
		next := 0
		if len(begun) > 0 {
			last := begun[len(begun)-1]
			next = last.At*states + last.State + 1
		}
		for ; next < states*ats; next++ {
			node := api.Gnode{State: next % states, At: next / states}
			for all := range bareStacks(append(slices.Clone(begun), node), more-1, states, ats) {
				if !yield(all) {
					return
				}
			}
		}
	}
}

// handLinks hands out stacks of some nodes with all links that those from a number on can have.
func handLinks(nodes []api.Gnode, from int, yield func(api.Gss) bool) bool {
	nodes = slices.Clone(nodes)
	if from == len(nodes) {
		for i := range nodes {
			nodes[i].Links = slices.Clone(nodes[i].Links)
		}
		return yield(api.Gss{Nodes: nodes})
	}
	var can []int
	for number, node := range nodes {
		if node.At <= nodes[from].At {
			can = append(can, number)
		}
	}
	for chosen := range 1 << len(can) {
		nodes[from].Links = nil
		for i, number := range can {
			if chosen>>i&1 != 0 {
				nodes[from].Links = append(nodes[from].Links, number)
			}
		}
		if !handLinks(nodes, from+1, yield) {
			return false
		}
	}
	return true
}

// FitStack is a stack of at most so many nodes that is drawn, their States and their Ats below so much: fit, as chapter 16 says it.
func FitStack(seed *Seed, nodes, states, ats int) api.Gss {
	var g api.Gss
	for range seed.Below(nodes + 1) {
		g.Nodes = append(g.Nodes, api.Gnode{State: seed.Below(states), At: seed.Below(ats)})
	}
	slices.SortFunc(g.Nodes, func(a, b api.Gnode) int {
		return cmp.Or(cmp.Compare(a.At, b.At), cmp.Compare(a.State, b.State))
	})
	g.Nodes = slices.CompactFunc(g.Nodes, func(a, b api.Gnode) bool { return a.State == b.State && a.At == b.At })
	often := 2 + seed.Below(4)
	for i, node := range g.Nodes {
		for link, other := range g.Nodes {
			if other.At <= node.At && seed.Below(often) == 0 {
				g.Nodes[i].Links = append(g.Nodes[i].Links, link)
			}
		}
	}
	return g
}

// AnyStack is a stack of at most so many nodes that is drawn, with numbers that are all small, some of them below 0: few of them are fit.
func AnyStack(seed *Seed, nodes int) api.Gss {
	var g api.Gss
	for i := range seed.Below(nodes + 1) {
		node := api.Gnode{State: seed.Below(5) - 1, At: (i + seed.Below(4) - 1) / 2}
		for range seed.Below(4) {
			node.Links = append(node.Links, seed.Below(nodes+2)-1)
		}
		g.Nodes = append(g.Nodes, node)
	}
	return g
}

// RoomyStack is a stack in memory of its own, with room behind its lists, so that one that grows in place is seen.
func RoomyStack(g api.Gss) api.Gss {
	made := api.Gss{Nodes: RoomyList(g.Nodes)}
	for i, node := range g.Nodes {
		made.Nodes[i].Links = RoomyList(node.Links)
	}
	return made
}

// StackRoomStays tells whether what lies behind the lists is as RoomyStack left it.
func StackRoomStays(g api.Gss) bool {
	for _, node := range g.Nodes {
		if !roomStays(node.Links) {
			return false
		}
	}
	for _, behind := range g.Nodes[len(g.Nodes):cap(g.Nodes)] {
		if behind.State != 0 || behind.At != 0 || behind.Links != nil {
			return false
		}
	}
	return true
}
