package sample

import "bramble/api"

// Shapes is every tree of just so many nodes that have nothing but Kids, each in memory of its own.
func Shapes(nodes int) []api.Node {
	var all []api.Node
	for _, kids := range forests(nodes - 1) {
		all = append(all, api.Node{Kids: kids})
	}
	return all
}

// forests is every row of trees of just so many nodes in all.
func forests(nodes int) [][]api.Node {
	if nodes <= 0 {
		return [][]api.Node{nil}
	}
	var all [][]api.Node
	for first := 1; first <= nodes; first++ {
		for i := range Shapes(first) {
			for _, rest := range forests(nodes - first) {
				row := append([]api.Node{Shapes(first)[i]}, rest...)
				all = append(all, row)
			}
		}
	}
	return all
}

// NodesOf is the nodes of a tree, each ahead of its kids, where they lie: a test can change one of them alone.
func NodesOf(n *api.Node) []*api.Node {
	all := []*api.Node{n}
	for i := range n.Kids {
		all = append(all, NodesOf(&n.Kids[i])...)
	}
	return all
}

// FitTrees is every tree of just so many nodes, each of one of some Kinds, that is fit, as chapter 14 says it, and lies from one place on up to another one. They share memory, so that none may be changed.
func FitTrees(nodes, from, to int, kinds ...string) []api.Node {
	var all []api.Node
	for _, row := range fitRows(nodes, from, to, kinds) {
		if len(row) == 1 {
			all = append(all, row[0])
		}
	}
	return all
}

// fitRows is every row of such trees of just so many nodes in all.
func fitRows(nodes, from, to int, kinds []string) [][]api.Node {
	if nodes <= 0 {
		return [][]api.Node{nil}
	}
	var all [][]api.Node
	for start := from; start <= to; start++ {
		for end := start; end <= to; end++ {
			for within := range nodes {
				kids := fitRows(within, start, end, kinds)
				for _, rest := range fitRows(nodes-1-within, end, to, kinds) {
					for i := range len(kids) * len(kinds) {
						first := api.Node{Kind: kinds[i%len(kinds)], From: start, To: end, Kids: kids[i/len(kinds)]}
						all = append(all, append([]api.Node{first}, rest...))
					}
				}
			}
		}
	}
	return all
}

// FitTree is a tree that is drawn, of the bytes from one place up to another one, at most so many nodes within one another: fit, as chapter 14 says it, while that is at most 6.
func FitTree(seed *Seed, from, to, deep int) api.Node {
	n := api.Node{Kind: []string{"a", "b", "\"+\"", "ERROR"}[seed.Below(4)], Named: seed.Below(2) == 0, From: from, To: to}
	if seed.Below(3) == 0 {
		n.Field = []string{"f", "g"}[seed.Below(2)]
	}
	if seed.Below(6) == 0 {
		n.Bad = api.BadError
	}
	if from == to && seed.Below(3) == 0 {
		n.Bad = api.BadMiss
		return n
	}
	if deep <= 1 {
		return n
	}
	for range seed.Below(5) {
		start := from + seed.Below(min(3, to-from+1))
		from = start + seed.Below(to-start+1)
		n.Kids = append(n.Kids, FitTree(seed, start, from, deep-1))
	}
	return n
}

// AnyTree is a tree of at most so many nodes that is drawn, with numbers that are all small, some of them below 0: few of them are fit.
func AnyTree(seed *Seed, nodes int) api.Node {
	n := api.Node{
		Kind:  []string{"", "a", "b", "\"+\""}[seed.Below(4)],
		Named: seed.Below(2) == 0,
		Field: []string{"", "", "f"}[seed.Below(3)],
		From:  seed.Below(9) - 2,
		To:    seed.Below(9) - 2,
		Bad:   []int{0, 0, 0, 0, 1, 2, 3, -1}[seed.Below(8)],
	}
	for nodes--; nodes > 0 && seed.Below(4) > 0; {
		kid := AnyTree(seed, 1+seed.Below(nodes))
		n.Kids = append(n.Kids, kid)
		nodes -= len(NodesOf(&kid))
	}
	return n
}

// RoomyTree is a tree in memory of its own, with room behind its lists, so that one that grows in place is seen.
func RoomyTree(n api.Node) api.Node {
	kids := make([]api.Node, 0, len(n.Kids)+2)
	for _, kid := range n.Kids {
		kids = append(kids, RoomyTree(kid))
	}
	n.Kids = kids
	return n
}

// TreeRoomStays tells whether what lies behind the lists is as RoomyTree left it.
func TreeRoomStays(n api.Node) bool {
	for _, behind := range n.Kids[len(n.Kids):cap(n.Kids)] {
		if !isNone(behind) {
			return false
		}
	}
	for _, kid := range n.Kids {
		if !TreeRoomStays(kid) {
			return false
		}
	}
	return true
}

// isNone tells whether a node is the zero one.
func isNone(n api.Node) bool {
	return n.Kind == "" && !n.Named && n.Field == "" && n.From == 0 && n.To == 0 && n.Bad == 0 && n.Kids == nil
}

// EndlessTrees is trees that hold themselves, lie far too deep, or hold so many others that none could go through them all.
func EndlessTrees() []api.Node {
	one := api.Node{Kind: "a", To: 4}
	loop := make([]api.Node, 2)
	for i := range loop {
		loop[i] = one
		loop[i].Kids = loop[:2-i]
	}
	far := make([]api.Node, 3000)
	for i := range far {
		far[i] = api.Node{Kind: "a", From: 1, To: 2}
	}
	far[2999] = api.Node{Kind: "a", To: 4, Kids: far}
	deep, wide := one, one
	for range 1 << 17 {
		deep = api.Node{Kind: "a", To: 4, Kids: []api.Node{deep}}
	}
	for range 60 {
		wide = api.Node{Kind: "a", To: 4, Kids: []api.Node{wide, wide}}
	}
	return []api.Node{loop[0], loop[1], far[2999], deep, wide}
}
