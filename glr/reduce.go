package glr

import "bramble/table"

// round is the reductions at a place: what lies so many links behind its nodes grows with their links, and these grow with it.
type round struct {
	*grower
	look   int
	opened []*top          // the nodes at the place, in the order of their numbers
	starts map[int]numbers // of each Left the nodes from which it has gone on
	todo   []func()
}

// top is a node at the place.
type top struct {
	*round
	number int
	prods  []int     // those by which it reduces
	over   numbers   // the nodes at the place that link to it
	fresh  []numbers // of each number of links what lies so far behind it, and is not told on yet
}

// reduce does all reductions at the place ahead of a terminal, or of the end.
func (g *grower) reduce(look int) {
	r := &round{grower: g, look: look, starts: map[int]numbers{}}
	for number := range g.here() {
		r.open(number)
	}
	for len(r.todo) > 0 && !g.full() {
		next := r.todo[0]
		r.todo = r.todo[1:]
		next()
	}
}

func (r *round) later(do func()) {
	r.todo = append(r.todo, do)
}

// open takes in a node at the place.
func (r *round) open(number int) {
	n := &r.nodes[number]
	n.back = make([]numbers, r.deepest+1)
	t := &top{round: r, number: number, fresh: make([]numbers, r.deepest+1)}
	t.prods = table.Act(r.table, n.state, r.look).Reduce
	r.opened = append(r.opened, t)
	r.later(t.begin)
}

// top is a node at the place by its number.
func (r *round) top(number int) *top {
	return r.opened[number-r.first]
}

// begin takes what lies behind a node when it is opened.
func (t *top) begin() {
	var itself numbers
	itself.add(t.number)
	t.learn(0, itself)
	for link := range t.nodes[t.number].links.all() {
		t.join(link)
	}
}

// join takes what lies behind a node by one of its links.
func (t *top) join(link int) {
	if link >= t.first {
		t.top(link).over.add(t.number)
	}
	for links, behind := range t.nodes[link].back[:t.deepest] {
		t.learn(links+1, behind)
	}
}

// learn takes nodes so many links behind. Those that are known were told on, and would come round for ever.
func (t *top) learn(links int, behind numbers) {
	known := &t.nodes[t.number].back[links]
	fresh := behind.less(*known)
	if fresh == nil {
		return
	}
	if t.fresh[links] == nil {
		t.later(func() { t.tell(links) })
	}
	known.put(fresh)
	t.fresh[links].put(fresh)
}

// tell tells on what lies so many links behind: to the nodes that link to this one, and to its productions of so many items.
func (t *top) tell(links int) {
	fresh := t.fresh[links]
	t.fresh[links] = nil
	if links < t.deepest {
		for over := range t.over.all() {
			t.top(over).learn(links+1, fresh)
		}
	}
	for _, prod := range t.prods {
		if t.items(prod) == links {
			t.goOn(t.Prods[prod].Left, fresh)
		}
	}
}

// goOn goes on by the Left of a production from the nodes at which its items begin.
func (r *round) goOn(left int, from numbers) {
	gone := r.starts[left]
	fresh := from.less(gone)
	if fresh == nil {
		return
	}
	gone.put(fresh)
	r.starts[left] = gone
	for number := range fresh.all() {
		if to := table.Go(r.table, r.nodes[number].state, left); r.isState(to) {
			r.link(to, number)
		}
	}
}

// link has a state at the place, with a link to a node.
func (r *round) link(state, to int) {
	number, isNew := r.put(state)
	if isNew {
		r.open(number)
	}
	if r.nodes[number].links.add(to) {
		r.top(number).join(to)
	}
}
