package dfa

import (
	"cmp"
	"iter"
	"slices"

	"bramble/api"
)

// What stands where no number is accepted, and where no state is.
const (
	nothing = -1
	nowhere = -1
)

// isState tells whether a number is that of a state.
func isState(l []api.Dstate, n int) bool {
	return 0 <= n && n < len(l)
}

// led is the state to which a byte leads from another one.
func led(l []api.Dstate, n int, c byte) int {
	if !isState(l, n) {
		return nowhere
	}
	arcs := l[n].Arcs
	endsAt := func(x api.Arc, c int) int { return cmp.Compare(x.Hi, c) }
	at, _ := slices.BinarySearchFunc(arcs, int(c), endsAt)
	if at == len(arcs) || int(c) < arcs[at].Lo {
		return nowhere
	}
	return arcs[at].To
}

// along hands out how many bytes a machine has gone along, and the state in which it is then. It ends at what is no state, so that it needs no fit machine: to ask for one at each text would take longer than to run.
func along(d api.Dfa, s string) iter.Seq2[int, int] {
	return func(yield func(int, int) bool) {
		n := 0
		for at := 0; isState(d.States, n) && yield(at, n) && at < len(s); at++ {
			n = led(d.States, n, s[at])
		}
	}
}
