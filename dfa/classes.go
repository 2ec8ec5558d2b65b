package dfa

import (
	"iter"
	"slices"

	"bramble/api"
)

// dead is the class of what no text leads from to an Accept, as far as is known; where there is no arc is of it, too.
const dead = 0

// rounds hands out the classes of states: first of those that accept the same number, and then, round by round, of those that no text of one byte more tells apart, till nothing changes.
func rounds(l []api.Dstate) iter.Seq[[]int] {
	return func(yield func([]int) bool) {
		var ahead []int
		for class := byAccept(l); !slices.Equal(class, ahead); class = refined(l, class) {
			if !yield(class) {
				return
			}
			ahead = class
		}
	}
}

// settled is the classes of states that no text tells apart.
func settled(l []api.Dstate) []int {
	var class []int
	for next := range rounds(l) {
		class = next
	}
	return class
}

// byAccept is the classes of states by what they accept.
func byAccept(l []api.Dstate) []int {
	known := from(nothing)
	var class []int
	for _, s := range l {
		class = append(class, known.meet(s.Accept))
	}
	return class
}

// refined is the classes of states by their classes so far and by those to which their arcs lead. Classes are numbered as they are met, so that those in which nothing changes keep their numbers.
func refined(l []api.Dstate, class []int) []int {
	known := from(textOf([]int{dead}))
	var out, told []int
	for n, s := range l {
		told = append(told[:0], class[n])
		for x, to := range classArcs(s, class) {
			told = append(told, x.Lo, x.Hi, to)
		}
		out = append(out, known.meet(textOf(told)))
	}
	return out
}

// classArcs hands out the arcs of a state, and the class to which each leads: none to dead ones, and one for those side by side that lead to one class.
func classArcs(s api.Dstate, class []int) iter.Seq2[api.Arc, int] {
	return func(yield func(api.Arc, int) bool) {
		var wide api.Arc
		last := dead
		for _, x := range s.Arcs {
			to := class[x.To]
			if to == last && x.Lo == wide.Hi+1 {
				wide.Hi = x.Hi
				continue
			}
			if last != dead && !yield(wide, last) {
				return
			}
			wide, last = api.Arc{Lo: x.Lo, Hi: x.Hi}, to
		}
		if last != dead {
			yield(wide, last)
		}
	}
}

// ofClasses is the machine whose states are classes, as they are met: any state of a class stands for it.
func ofClasses(l []api.Dstate, class []int) api.Dfa {
	one := func(c int) api.Dstate { return l[slices.Index(class, c)] }
	accept := func(c int) int { return one(c).Accept }
	arcs := func(c int) iter.Seq2[api.Arc, int] { return classArcs(one(c), class) }
	d, _ := machine(class[0], accept, arcs)
	return d
}

// beside is the states of two machines in one list, with those of the second behind.
func beside(a, b []api.Dstate) []api.Dstate {
	l := slices.Clone(a)
	for _, s := range b {
		s.Arcs = slices.Clone(s.Arcs)
		for i := range s.Arcs {
			s.Arcs[i].To += len(a)
		}
		l = append(l, s)
	}
	return l
}

// apart is the first of the texts, all of one byte for each round ahead, that tell two states apart.
func apart(l []api.Dstate, ahead [][]int, a, b int) string {
	var s []byte
	for _, class := range slices.Backward(ahead) {
		for c := range numBytes {
			x, y := led(l, a, byte(c)), led(l, b, byte(c))
			if classOf(class, x) != classOf(class, y) {
				s = append(s, byte(c))
				a, b = x, y
				break
			}
		}
	}
	return string(s)
}

// classOf is the class of a state, or of none.
func classOf(class []int, n int) int {
	if n == nowhere {
		return dead
	}
	return class[n]
}
