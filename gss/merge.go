package gss

import (
	"maps"
	"slices"

	"bramble/api"
)

// numbersOf tells the nodes of two stacks apart: of each spot that either has the number that it has among all of them.
func numbersOf(a, b api.Gss) map[spot]int {
	numbers := map[spot]int{}
	for _, g := range []api.Gss{a, b} {
		for _, node := range g.Nodes {
			numbers[spotOf(node)] = 0
		}
	}
	for number, s := range slices.SortedFunc(maps.Keys(numbers), compare) {
		numbers[s] = number
	}
	return numbers
}

// merged is a stack of all nodes and links of some, by numbers that all their spots have.
func merged(numbers map[spot]int, stacks ...api.Gss) api.Gss {
	if len(numbers) == 0 {
		return api.Gss{}
	}
	made := api.Gss{Nodes: make([]api.Gnode, len(numbers))}
	for _, g := range stacks {
		lay(made, g, numbers)
	}
	for i, node := range made.Nodes {
		slices.Sort(node.Links)
		made.Nodes[i].Links = slices.Compact(node.Links)
	}
	return made
}

// lay puts a stack's nodes and links to those that are there.
func lay(made, g api.Gss, numbers map[spot]int) {
	anew := make([]int, len(g.Nodes))
	for number, node := range g.Nodes {
		anew[number] = numbers[spotOf(node)]
	}
	for number, node := range g.Nodes {
		one := &made.Nodes[anew[number]]
		one.State, one.At = node.State, node.At
		for _, link := range node.Links {
			if has(g, link) {
				one.Links = append(one.Links, anew[link])
			}
		}
	}
}
