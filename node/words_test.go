package node

import (
	"strings"

	"bramble/api"
)

// What follows says the chapter's words once more, each node by itself, so that the calls can be held against them.

// reach is how many nodes lie within one another, and how many there are in all.
func reach(n api.Node) (deep, all int) {
	for _, kid := range n.Kids {
		d, a := reach(kid)
		deep, all = max(deep, d), all+a
	}
	return deep + 1, all + 1
}

func fitByWords(n api.Node, size int) bool {
	deep, all := reach(n)
	return deep <= 32 && all <= 5000 && madeByWords(n, size)
}

// madeByWords is fit, but for how many nodes there are.
func madeByWords(n api.Node, size int) bool {
	if n.From < 0 || n.To < n.From || n.To > size {
		return false
	}
	if n.Kind == "" || len(n.Kind) > 80 || len(n.Field) > 32 {
		return false
	}
	if n.Bad < api.BadNone || n.Bad > api.BadMiss {
		return false
	}
	if n.Bad == api.BadMiss && (len(n.Kids) > 0 || n.From != n.To) {
		return false
	}
	for i, kid := range n.Kids {
		ahead := n.From
		if i > 0 {
			ahead = n.Kids[i-1].To
		}
		if kid.From < ahead || kid.To > n.To || !madeByWords(kid, size) {
			return false
		}
	}
	return true
}

func printByWords(n api.Node) string {
	var kids []string
	for _, kid := range n.Kids {
		kids = append(kids, printByWords(kid))
	}
	s := n.Kind
	if n.Bad == api.BadMiss {
		s = "(MISSING " + n.Kind + ")"
	} else if n.Named || n.Bad == api.BadError {
		s = "(" + strings.Join(append([]string{n.Kind}, kids...), " ") + ")"
	} else if len(kids) > 0 {
		s = n.Kind + "[" + strings.Join(kids, " ") + "]"
	}
	if n.Field != "" {
		s = n.Field + ": " + s
	}
	return s
}

func leavesByWords(n api.Node) []api.Node {
	if len(n.Kids) == 0 {
		n.Kids = nil
		return []api.Node{n}
	}
	var all []api.Node
	for _, kid := range n.Kids {
		all = append(all, leavesByWords(kid)...)
	}
	return all
}

func wrongByWords(n api.Node) bool {
	wrong := n.Bad != api.BadNone
	for _, kid := range n.Kids {
		wrong = wrong || wrongByWords(kid)
	}
	return wrong
}

// covers tells whether a node has bytes from up to to.
func covers(n api.Node, from, to int) bool {
	return !(n.From > from) && !(n.To < to)
}

func atByWords(n api.Node, from, to int) []int {
	if !covers(n, from, to) {
		return nil
	}
	for place, kid := range n.Kids {
		if covers(kid, from, to) {
			return append([]int{place}, atByWords(kid, from, to)...)
		}
	}
	return nil
}

func findByWords(n api.Node, path []int) (api.Node, bool) {
	if len(path) == 0 {
		return moveByWords(n, 0), true
	}
	for place, kid := range n.Kids {
		if place == path[0] {
			return findByWords(kid, path[1:])
		}
	}
	return api.Node{}, false
}

func moveByWords(n api.Node, by int) api.Node {
	n.From, n.To = int(uint64(n.From)+uint64(by)), int(uint64(n.To)+uint64(by))
	var kids []api.Node
	for _, kid := range n.Kids {
		kids = append(kids, moveByWords(kid, by))
	}
	n.Kids = kids
	return n
}
