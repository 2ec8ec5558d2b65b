package dfa

import (
	"slices"
	"testing"

	"bramble/api"
	"bramble/nfa"
	"bramble/rex"
	"bramble/sample"
)

// The least and the greatest number.
const (
	least = -1 << 63
	most  = 1<<63 - 1
)

// made is a machine of states.
func made(l ...api.Dstate) api.Dfa { return api.Dfa{States: l} }

// state is a state that accepts a number, with arcs, each told by its three numbers.
func state(accept int, l ...[3]int) api.Dstate {
	s := api.Dstate{Accept: accept}
	for _, x := range l {
		s.Arcs = append(s.Arcs, api.Arc{Lo: x[0], Hi: x[1], To: x[2]})
	}
	return s
}

// many is the machine for expressions.
func many(t *testing.T, l ...string) api.Nfa {
	t.Helper()
	var all []api.Rex
	for _, s := range l {
		x, f := rex.Parse(s)
		if f.Err != api.OK {
			t.Fatalf("Parse(%q): %v", s, f)
		}
		all = append(all, x)
	}
	m, err := nfa.Build(all)
	if err != api.OK {
		t.Fatalf("Build of %q: %v", l, err)
	}
	return m
}

// of is the least machine for expressions.
func of(t *testing.T, l ...string) api.Dfa {
	t.Helper()
	d, err := Of(many(t, l...))
	if err != api.OK {
		t.Fatalf("Of of %q: %v", l, err)
	}
	return d
}

// stateBehind is the state in which a machine is behind a text, gone through arc by arc; -1, if it does not go along all of it.
func stateBehind(d api.Dfa, s string) int {
	n := 0
	for i := range len(s) {
		to := -1
		for _, x := range d.States[n].Arcs {
			if x.Lo <= int(s[i]) && int(s[i]) <= x.Hi {
				to = x.To
			}
		}
		if to < 0 {
			return -1
		}
		n = to
	}
	return n
}

// acceptOf is what a machine accepts a text with.
func acceptOf(d api.Dfa, s string) int {
	if n := stateBehind(d, s); n >= 0 {
		return d.States[n].Accept
	}
	return -1
}

// smalls is every machine of n states over two letters, that accept 0, 1 or nothing.
func smalls(n int, letters string) []api.Dfa {
	all := []api.Dfa{{}}
	for range n {
		var more []api.Dfa
		for _, d := range all {
			for accept := -1; accept < 2; accept++ {
				for x := -1; x < n; x++ {
					for y := -1; y < n; y++ {
						s := over(accept, letters, []int{x, y})
						more = append(more, made(append(slices.Clone(d.States), s)...))
					}
				}
			}
		}
		all = more
	}
	return all
}

// over is a state from which some letters lead to states, those to -1 nowhere.
func over(accept int, letters string, to []int) api.Dstate {
	s := api.Dstate{Accept: accept}
	for i, n := range to {
		if n >= 0 {
			c := int(letters[i])
			s.Arcs = append(s.Arcs, api.Arc{Lo: c, Hi: c, To: n})
		}
	}
	return s
}

// drawn is a fit machine of at most n states over some letters; few of its states accept something.
func drawn(seed *sample.Seed, n int, letters string) api.Dfa {
	var d api.Dfa
	n = 1 + seed.Below(n)
	for range n {
		to := make([]int, len(letters))
		for i := range to {
			to[i] = seed.Below(n+1) - 1
		}
		d.States = append(d.States, over(seed.Below(5)/3-1, letters, to))
	}
	d.States[seed.Below(n)].Accept = seed.Below(2)
	return d
}

// drawnMany is a fit machine that is in many of at most n states, over letters from a to d.
func drawnMany(seed *sample.Seed, n int) api.Nfa {
	var m api.Nfa
	n = 1 + seed.Below(n)
	for range n {
		s := api.Nstate{Accept: max(-1, seed.Below(6)-3)}
		for range seed.Below(2) {
			s.Eps = append(s.Eps, seed.Below(n))
		}
		for range seed.Below(4) {
			lo := seed.Below(4)
			s.Arcs = append(s.Arcs, api.Arc{Lo: 'a' + lo, Hi: 'a' + lo + seed.Below(4-lo), To: seed.Below(n)})
		}
		m.States = append(m.States, s)
	}
	return m
}

// roomy is a machine in memory of its own, where each list has room behind it.
func roomy(d api.Dfa) api.Dfa {
	out := api.Dfa{States: make([]api.Dstate, 0, len(d.States)+3)}
	for _, s := range d.States {
		arcs := make([]api.Arc, 0, len(s.Arcs)+3)
		out.States = append(out.States, api.Dstate{Arcs: append(arcs, s.Arcs...), Accept: s.Accept})
	}
	return out
}

// full is a machine with what stands in the room behind its lists.
func full(d api.Dfa) api.Dfa {
	out := api.Dfa{States: slices.Clone(d.States[:cap(d.States)])}
	for i, s := range out.States {
		out.States[i].Arcs = slices.Clone(s.Arcs[:cap(s.Arcs)])
	}
	return out
}

// spoil writes over all of a machine's lists, and over the room behind them.
func spoil(d api.Dfa) {
	for _, s := range d.States {
		for i := range s.Arcs[:cap(s.Arcs)] {
			s.Arcs[:cap(s.Arcs)][i] = api.Arc{Lo: 77, Hi: 7, To: -7}
		}
	}
	for i := range d.States[:cap(d.States)] {
		d.States[:cap(d.States)][i] = state(-77)
	}
}

// unfit is machines that can't be, of all kinds.
func unfit() []api.Dfa {
	return []api.Dfa{
		{},
		made([]api.Dstate{}...),
		made(state(-2, [3]int{0, 255, 0})),
		made(state(least, [3]int{0, 255, 0})),
		made(state(0, [3]int{0, 255, 1})),
		made(state(0, [3]int{0, 255, -1})),
		made(state(0, [3]int{0, 255, most})),
		made(state(0, [3]int{0, 255, least})),
		made(state(0, [3]int{least, most, 0})),
		made(state(0, [3]int{most, least, 0})),
		made(state(0, [3]int{-1, 'a', 0}), state(1)),
		made(state(0, [3]int{'a', 256, 0}), state(1)),
		made(state(0, [3]int{'a', 'a', 1}, [3]int{'a', 'a', 0}), state(1, [3]int{'b', 'a', 0})),
		made(state(0, [3]int{'z', 'z', 9}, [3]int{'b', 'y', 0}, [3]int{'a', 'c', 1}), state(-9)),
		made(slices.Repeat([]api.Dstate{state(1, [3]int{0, 255, 600})}, api.MaxDfa+1)...),
		made(slices.Repeat([]api.Dstate{state(-1, [3]int{'a', 'b', 9})}, 100000)...),
	}
}

func TestUnfitEnds(t *testing.T) {
	fit := made(state(0, [3]int{'a', 'b', 0}))
	for _, d := range unfit() {
		Least(d)
		for _, s := range []string{"", "a", "ab\x00\xff", "zzzzzz"} {
			if n, _ := Run(d, s); n < 0 || n > len(s) {
				t.Errorf("Run goes to %d of %q", n, s)
			}
			if n := Seen(d, s); n < 0 || n > len(s) {
				t.Errorf("Seen is %d of %q", n, s)
			}
		}
		Differ(d, fit)
		Differ(fit, d)
		Differ(d, d)
		Same(d, fit)
	}
}

func TestUnfitManyEnds(t *testing.T) {
	arc := func(lo, hi, to int) api.Nfa {
		return api.Nfa{States: []api.Nstate{{Arcs: []api.Arc{{Lo: lo, Hi: hi, To: to}}}}}
	}
	for i, m := range []api.Nfa{
		{},
		{States: []api.Nstate{{Accept: -2}}},
		{States: []api.Nstate{{Accept: least}}},
		{States: []api.Nstate{{Eps: []int{1}}}},
		{States: []api.Nstate{{Eps: []int{-1, most, least}}}},
		{States: make([]api.Nstate, api.MaxNfa+1)},
		arc(-1, 0, 0), arc(0, 256, 0), arc(1, 0, 0), arc(least, most, 0), arc(most, least, 0),
		arc(0, 255, 1), arc(0, 255, -1), arc(0, 255, most), arc(0, 255, least),
	} {
		if d, err := Of(m); err == api.OK && !Fit(d) || err != api.OK && d.States != nil {
			t.Errorf("%d: %v with %v", i, d, err)
		}
	}
}
