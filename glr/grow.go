package glr

import (
	"cmp"
	"iter"
	"maps"
	"slices"

	"bramble/api"
	"bramble/table"
)

// mostItems is how many links, one after another, are gone back at the most: no production has more items.
const mostItems = 64

// node is a node of a stack that grows: the nodes behind it, and, of each number of links, those to which so many lead.
type node struct {
	state int
	at    int
	links numbers
	back  []numbers
}

// grower is a stack that grows place by place. Nodes have their numbers as they come: those at the place stand behind all others, of which nothing changes any more.
type grower struct {
	api.Flat
	table   api.Table
	nodes   []node
	at      int
	first   int         // the number of the first node at the place
	tops    map[int]int // of each state at the place its node's number
	deepest int         // how many items a production has at the most
}

// begun is the stack that has state 0 at 0, and nothing else yet.
func begun(f api.Flat, t api.Table) *grower {
	g := &grower{Flat: f, table: t, tops: map[int]int{}}
	for prod := range f.Prods {
		g.deepest = max(g.deepest, g.items(prod))
	}
	g.put(0)
	return g
}

// items is how many items a production has; -1, if there is none by which can be reduced.
func (g *grower) items(prod int) int {
	if prod < 0 || prod >= len(g.Prods) || len(g.Prods[prod].Right) > mostItems {
		return -1
	}
	return len(g.Prods[prod].Right)
}

// end is the number of what stands behind all terminals of a row.
func (g *grower) end() int {
	return len(g.Terms)
}

// full tells whether there are more nodes than may be: then nothing else is told of the stack, and it need not grow farther.
func (g *grower) full() bool {
	return len(g.nodes) > api.MaxSlots
}

func (g *grower) isState(n int) bool {
	return n >= 0 && n < len(g.table.Rows)
}

// put is the number of a state's node at the place, and whether it was not there.
func (g *grower) put(state int) (int, bool) {
	if number, ok := g.tops[state]; ok {
		return number, false
	}
	number := len(g.nodes)
	g.tops[state] = number
	g.nodes = append(g.nodes, node{state: state, at: g.at})
	return number, true
}

// here hands out the nodes at the place.
func (g *grower) here() iter.Seq[int] {
	return func(yield func(int) bool) {
		for number := g.first; number < len(g.nodes); number++ {
			if !yield(number) {
				return
			}
		}
	}
}

// passAll passes all terminals of a row, if that can be.
func (g *grower) passAll(l []int) bool {
	for _, term := range l {
		if !g.pass(term) {
			return false
		}
	}
	return true
}

// pass does what is to be done at the place ahead of a terminal, and goes on behind it; false, if nothing stands there, or there are too many nodes.
func (g *grower) pass(term int) bool {
	// The end's number is no terminal's, either, though states do something ahead of the end.
	if term < 0 || term >= g.end() {
		return false
	}
	g.reduce(term)
	g.shift(term)
	return len(g.tops) > 0 && !g.full()
}

// passesLast tells whether a terminal is passed that is the last one.
func (g *grower) passesLast(term int) bool {
	if !g.pass(term) {
		return false
	}
	g.reduce(g.end())
	return !g.full()
}

// shift goes to the next place, where there is what the nodes at this one shift to.
func (g *grower) shift(term int) {
	from := slices.Collect(g.here())
	g.at++
	g.first = len(g.nodes)
	g.tops = map[int]int{}
	for _, number := range from {
		if to := table.Act(g.table, g.nodes[number].state, term).To; g.isState(to) {
			top, _ := g.put(to)
			g.nodes[top].links.add(number)
		}
	}
}

// fork is a stack that grows by itself from here on. What lies behind the place is had by both.
func (g *grower) fork() *grower {
	one := *g
	one.nodes = slices.Clone(g.nodes)
	one.tops = maps.Clone(g.tops)
	for number := range one.here() {
		one.nodes[number].links = slices.Clone(g.nodes[number].links)
	}
	return &one
}

// stack is what has grown, its nodes in order.
func (g *grower) stack() api.Gss {
	var order []int
	for number := range g.nodes {
		order = append(order, number)
	}
	slices.SortFunc(order, func(a, b int) int {
		return cmp.Or(cmp.Compare(g.nodes[a].at, g.nodes[b].at), cmp.Compare(g.nodes[a].state, g.nodes[b].state))
	})
	anew := make([]int, len(order))
	for place, number := range order {
		anew[number] = place
	}
	var made api.Gss
	for _, number := range order {
		one := api.Gnode{State: g.nodes[number].state, At: g.nodes[number].at}
		for link := range g.nodes[number].links.all() {
			one.Links = append(one.Links, anew[link])
		}
		slices.Sort(one.Links)
		made.Nodes = append(made.Nodes, one)
	}
	return made
}
