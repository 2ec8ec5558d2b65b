package diff

import (
	"iter"
	"slices"
	"sort"

	"bramble/api"
)

// What lies deeper has no end, as far as a call goes: a list can hold itself.
const mostDeep = 1 << 16

// covering hands out the nodes that cover a byte: one of those that lie side by side, one of its kids, and so on. No two of them cover the same one, and their ends rise.
func covering(side []api.Node, at int) iter.Seq[*api.Node] {
	return func(yield func(*api.Node) bool) {
	search:
		for {
			place := sort.Search(len(side), func(i int) bool { return side[i].To > at })
			switch {
			case place == len(side) || side[place].From > at:
				break search
			case !yield(&side[place]):
				return
			}
			side = side[place].Kids
		}
	}
}

// marks is the marks of a byte, in a list that is written over; false, if they have no end.
func marks(l []api.Mark, side []api.Node, at int) ([]api.Mark, bool) {
	l = l[:0]
	for n := range covering(side, at) {
		if len(l) == mostDeep {
			return nil, false
		}
		l = append(l, api.Mark{Kind: n.Kind, First: n.From == at, Last: n.To == at+1})
	}
	return l, true
}

// pair is two trees that are held against one another, with a list of marks for each, so that not each byte asks for new ones.
type pair struct {
	a, b    []api.Node
	was, is []api.Mark
	endless bool
}

func newPair(a, b api.Node) *pair {
	return &pair{a: []api.Node{a}, b: []api.Node{b}}
}

// same tells whether a byte of the one tree has the marks that a byte of the other one has; where a tree has no end, none has.
func (p *pair) same(inA, inB int) bool {
	was, okA := marks(p.was, p.a, inA)
	is, okB := marks(p.is, p.b, inB)
	p.was, p.is, p.endless = was, is, !okA || !okB
	return !p.endless && slices.Equal(was, is)
}
