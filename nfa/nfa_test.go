package nfa

import (
	"slices"
	"strings"
	"testing"

	"bramble/api"
	"bramble/rex"
	"bramble/sample"
)

// letters is letters from one to another one.
func letters(lo, hi int) api.Runes { return api.Runes{Lo: lo, Hi: hi} }

// oneOf is the expression of a letter of some.
func oneOf(l ...api.Runes) api.Rex { return api.Rex{Op: api.RxSet, Set: l} }

// over is an expression of a kind over others.
func over(op int, l ...api.Rex) api.Rex { return api.Rex{Op: op, Subs: l} }

// read is the expressions of some texts.
func read(t *testing.T, l ...string) []api.Rex {
	t.Helper()
	var out []api.Rex
	for _, s := range l {
		x, f := rex.Parse(s)
		if f.Err != api.OK {
			t.Fatalf("Parse(%q): %v", s, f)
		}
		out = append(out, x)
	}
	return out
}

// built is the machine of some expressions.
func built(t *testing.T, l ...api.Rex) api.Nfa {
	t.Helper()
	m, err := Build(l)
	if err != api.OK || !Fit(m) {
		t.Fatalf("Build(%v): %v, fit: %v", l, err, Fit(m))
	}
	return m
}

// machine is a machine of states.
func machine(l ...api.Nstate) api.Nfa { return api.Nfa{States: l} }

// state is a state that accepts a number, by its Eps.
func state(accept int, eps ...int) api.Nstate { return api.Nstate{Accept: accept, Eps: eps} }

// by is a state with arcs more, each told by its three numbers.
func by(s api.Nstate, l ...[3]int) api.Nstate {
	s.Arcs = slices.Clone(s.Arcs)
	for _, x := range l {
		s.Arcs = append(s.Arcs, api.Arc{Lo: x[0], Hi: x[1], To: x[2]})
	}
	return s
}

// copied is a machine in memory of its own.
func copied(m api.Nfa) api.Nfa {
	var out api.Nfa
	for _, s := range m.States {
		out.States = append(out.States, api.Nstate{Eps: slices.Clone(s.Eps), Arcs: slices.Clone(s.Arcs), Accept: s.Accept})
	}
	return out
}

// same tells whether two machines are the same, field by field.
func same(a, b api.Nfa) bool {
	return slices.EqualFunc(a.States, b.States, func(x, y api.Nstate) bool {
		return x.Accept == y.Accept && slices.Equal(x.Eps, y.Eps) && slices.Equal(x.Arcs, y.Arcs)
	})
}

// drawn is a fit machine.
func drawn(seed *sample.Seed) api.Nfa {
	var m api.Nfa
	n := 1 + seed.Below(7)
	for range n {
		s := state(seed.Below(5) - 1)
		for range seed.Below(3) {
			s.Eps = append(s.Eps, seed.Below(n))
		}
		for range seed.Below(5) {
			lo := 'a' + seed.Below(3)
			s = by(s, [3]int{lo, lo + seed.Below(3), seed.Below(n)})
		}
		m.States = append(m.States, s)
	}
	return m
}

// smalls is every machine of two states with Eps and arcs by a, and some drawn ones.
func smalls() []api.Nfa {
	var all []api.Nfa
	has := func(n, bit int) bool { return n>>bit&1 == 1 }
	for links := range 256 {
		m := machine(state(0), state(0))
		for bit := range 4 {
			s := &m.States[bit/2]
			if has(links, bit) {
				s.Eps = append(s.Eps, bit%2)
			}
			if has(links, bit+4) {
				*s = by(*s, [3]int{'a', 'a', bit % 2})
			}
		}
		for a := -1; a < 2; a++ {
			for b := -1; b < 2; b++ {
				n := copied(m)
				n.States[0].Accept, n.States[1].Accept = a, b
				all = append(all, n)
			}
		}
	}
	seed := sample.Seed(4)
	for range 1000 {
		all = append(all, drawn(&seed))
	}
	return all
}

// Each call is made, and what it was given is held against a copy from ahead, with room behind the lists, so that one that grows in place is seen.
func TestArgumentsStay(t *testing.T) {
	for _, m := range smalls() {
		for i := range m.States {
			s := &m.States[i]
			s.Eps = append(s.Eps, 77)[:len(s.Eps)]
			s.Arcs = append(s.Arcs, api.Arc{To: 77})[:len(s.Arcs)]
		}
		numbers := []int{1, 0, 1, 9, -1, 77}
		l := numbers[:5]
		was := copied(m)
		Fit(m)
		Closure(m, l)
		Step(m, l, 'a')
		Run(m, "aab")
		if !same(m, was) || !slices.Equal(numbers, []int{1, 0, 1, 9, -1, 77}) {
			t.Fatalf("%v has become %v, or the numbers %v", was, m, numbers)
		}
		for _, s := range m.States {
			if s.Eps[:len(s.Eps)+1][len(s.Eps)] != 77 || s.Arcs[:len(s.Arcs)+1][len(s.Arcs)].To != 77 {
				t.Fatalf("%v was written behind", was)
			}
		}
	}
	l := read(t, "a(b|c)*", `[^a]+\w?`, "", "é|€")
	was := read(t, "a(b|c)*", `[^a]+\w?`, "", "é|€")
	if Build(l); !slices.EqualFunc(l, was, rex.Same) {
		t.Errorf("%v has become %v", was, l)
	}
}

// What was told once may be written over, and grown: nothing that is told later, or beside it, changes.
func TestAnswersShareNothing(t *testing.T) {
	l := read(t, "a(b|c)*", `[^a]+\w?`, "", "é|€")
	m, again := built(t, l...), built(t, l...)
	was := copied(m)
	for i := range m.States {
		s := &m.States[i]
		_, _ = append(s.Eps, 99), append(s.Arcs, api.Arc{To: 99})
	}
	if !same(m, was) {
		t.Error("Build: a list has what another one has")
	}
	for i := range m.States {
		s := &m.States[i]
		for j := range s.Eps {
			s.Eps[j] = 99
		}
		for j := range s.Arcs {
			s.Arcs[j] = api.Arc{To: 99}
		}
		*s = state(99)
	}
	if now := built(t, l...); !same(again, was) || !same(now, was) {
		t.Error("Build tells what it told")
	}
	all := letters(0, 0x10FFFF)
	rows, want := Split(all), Split(all)
	for i := range rows {
		for j := range rows[i] {
			rows[i][j] = api.Arc{To: 99}
		}
		_ = append(rows[i], api.Arc{To: 99})
		if !slices.EqualFunc(rows[i+1:], want[i+1:], slices.Equal) {
			t.Fatalf("Split: row %d has what a later one has", i)
		}
	}
	if !slices.EqualFunc(Split(all), want, slices.Equal) {
		t.Error("Split tells what it told")
	}
	numbers := []int{0, 1}
	loop := machine(by(state(0), [3]int{'a', 'a', 0}), by(state(0), [3]int{'a', 'a', 1}))
	Closure(loop, numbers)[0] = 99
	Step(loop, numbers, 'a')[0] = 99
	if !slices.Equal(numbers, []int{0, 1}) {
		t.Errorf("the numbers that were given are %v", numbers)
	}
}

// hostile is machines that are not fit: no promise but that the calls end.
func hostile() []api.Nfa {
	const least, most = -1 << 63, 1<<63 - 1
	all := []api.Nfa{{}, machine(api.Nstate{})}
	for _, n := range []int{least, -1, 1, 63, 64, 4000, most} {
		all = append(all, machine(state(0, n)), machine(by(state(0), [3]int{0, 255, n})), machine(state(n)))
		all = append(all, machine(by(state(0), [3]int{n, n, 0})), machine(by(state(0, 0), [3]int{least, most, 0})))
	}
	var long api.Nfa
	for i := range 1 << 20 {
		long.States = append(long.States, state(i, i+1, i, i-1))
	}
	return append(all, long)
}

func TestUnfitEnds(t *testing.T) {
	const least, most = -1 << 63, 1<<63 - 1
	for _, m := range hostile() {
		Fit(m)
		Closure(m, []int{0, least, most, -1, 64})
		Closure(m, nil)
		Step(m, []int{0, least, most, -1, 64}, 'a')
		Run(m, "ab\xff")
		Run(m, "")
	}
}

// Great machines on the longest text.
func TestRunOfLong(t *testing.T) {
	s := strings.Repeat("a", api.MaxText)
	short := slices.Repeat([]string{strings.Repeat("a?", 199)}, 5)
	if n, a := Run(built(t, read(t, short...)...), s); n != 199 || a != 0 {
		t.Errorf("%d, %d", n, a)
	}
	if n, a := Run(built(t, read(t, append(short, "(a|aa)*")...)...), s); n != api.MaxText || a != 5 {
		t.Errorf("%d, %d", n, a)
	}
	if n, a := Run(built(t, read(t, "(.|\\n)*a")...), s+"\xff"); n != api.MaxText || a != 0 {
		t.Errorf("%d, %d", n, a)
	}
}
