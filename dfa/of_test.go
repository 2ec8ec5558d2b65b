package dfa

import (
	"slices"
	"strings"
	"testing"

	"bramble/api"
	"bramble/nfa"
	"bramble/sample"
)

// manyRow is a machine of n states in a row by all bytes; the last accepts what is told.
func manyRow(n, accept int) api.Nfa {
	m := api.Nfa{States: slices.Repeat([]api.Nstate{{Accept: -1}}, n)}
	for i := range n - 1 {
		m.States[i].Arcs = []api.Arc{{Lo: 0, Hi: 255, To: i + 1}}
	}
	m.States[n-1].Accept = accept
	return m
}

// acceptOfMany is what a machine in many states accepts a text with.
func acceptOfMany(m api.Nfa, s string) int {
	in := nfa.Closure(m, []int{0})
	for i := range len(s) {
		in = nfa.Step(m, in, s[i])
	}
	what := -1
	for _, n := range in {
		if a := m.States[n].Accept; a >= 0 && (what < 0 || a < what) {
			what = a
		}
	}
	return what
}

func TestOfTold(t *testing.T) {
	for _, c := range []struct {
		l    []string
		want api.Dfa
	}{
		{[]string{"a|ab"}, made(state(-1, [3]int{'a', 'a', 1}), state(0, [3]int{'b', 'b', 2}), state(0))},
		{[]string{"ab|a+"}, made(state(-1, [3]int{'a', 'a', 1}), state(0, [3]int{'a', 'a', 2}, [3]int{'b', 'b', 3}), state(0, [3]int{'a', 'a', 2}), state(0))},
		{[]string{"()"}, made(state(0))},
		{[]string{"a*"}, made(state(0, [3]int{'a', 'a', 0}))},
		{[]string{"a*", "a+"}, made(state(0, [3]int{'a', 'a', 0}))},
		{[]string{"a", "[a-c]"}, made(state(-1, [3]int{'a', 'a', 1}, [3]int{'b', 'c', 2}), state(0), state(1))},
		{[]string{"[a-c]", "a"}, made(state(-1, [3]int{'a', 'c', 1}), state(0))},
		{[]string{"[ac]|b"}, made(state(-1, [3]int{'a', 'c', 1}), state(0))},
		{[]string{"(a|b)c|bc"}, made(state(-1, [3]int{'a', 'b', 1}), state(-1, [3]int{'c', 'c', 2}), state(0))},
		{[]string{"ba|ca|a"}, made(state(-1, [3]int{'a', 'a', 1}, [3]int{'b', 'c', 2}), state(0), state(-1, [3]int{'a', 'a', 1}))},
		{[]string{"é"}, made(state(-1, [3]int{0xC3, 0xC3, 1}), state(-1, [3]int{0xA9, 0xA9, 2}), state(0))},
	} {
		if got := of(t, c.l...); !Same(got, c.want) {
			t.Errorf("of %q: %v, not %v", c.l, got, c.want)
		}
	}
}

func TestOfNothingAccepted(t *testing.T) {
	for _, m := range []api.Nfa{
		{States: []api.Nstate{{Accept: -1}}},
		{States: []api.Nstate{{Accept: -1, Eps: []int{0}, Arcs: []api.Arc{{Lo: 0, Hi: 255, To: 0}}}}},
		{States: []api.Nstate{{Accept: -1}, {Accept: 3, Eps: []int{0}}}},
		manyRow(5, -1),
	} {
		if d, err := Of(m); err != api.OK || !Same(d, made(state(-1))) {
			t.Errorf("of %v: %v, %v", m, d, err)
		}
	}
}

func TestOfLimit(t *testing.T) {
	aside := manyRow(api.MaxDfa, 0)
	aside.States[0].Arcs = append(aside.States[0].Arcs, api.Arc{Lo: 'b', Hi: 'b', To: 9})
	ring := manyRow(api.MaxDfa, 0)
	ring.States[api.MaxDfa-1].Arcs = []api.Arc{{Lo: 7, Hi: 8, To: 0}}
	never := manyRow(api.MaxNfa, 0)
	never.States[api.MaxDfa-1].Arcs = nil
	for _, c := range []struct {
		name string
		m    api.Nfa
		size int
		err  api.Errno
	}{
		{"at it", manyRow(api.MaxDfa, 0), api.MaxDfa, api.OK},
		{"behind it", manyRow(api.MaxDfa+1, 0), 0, api.ErrMany},
		{"far behind it", manyRow(api.MaxNfa, 0), 0, api.ErrMany},
		{"at it, all dead", manyRow(api.MaxDfa, -1), 1, api.OK},
		{"behind it, all dead", manyRow(api.MaxDfa+1, -1), 0, api.ErrMany},
		{"a ring at it", ring, api.MaxDfa, api.OK},
		{"a set more, of two states", aside, 0, api.ErrMany},
		{"what nothing leads to", never, 1, api.OK},
		{"512 sets", many(t, "(a|b)*a"+strings.Repeat("(a|b)", 8)), 512, api.OK},
		{"1024 sets", many(t, "(a|b)*a"+strings.Repeat("(a|b)", 9)), 0, api.ErrMany},
	} {
		d, err := Of(c.m)
		if err != c.err || len(d.States) != c.size {
			t.Errorf("%s: %d states, %v, not %d, %v", c.name, len(d.States), err, c.size, c.err)
		}
		if err == api.OK && (!Fit(d) || !Same(Least(d), d)) {
			t.Errorf("%s: not fit, or not the least", c.name)
		}
		if err != api.OK && d.States != nil {
			t.Errorf("%s: a machine beside the error", c.name)
		}
	}
}

// TestOfCountsSets: behind each text of a* are as many states as it is long, so that sets, not states, are many; and all of them are alike.
func TestOfCountsSets(t *testing.T) {
	grown := func(n int) api.Nfa {
		m := api.Nfa{States: make([]api.Nstate, n)}
		for i := range n {
			m.States[i].Arcs = []api.Arc{{Lo: 'a', Hi: 'a', To: min(i+1, n-1)}, {Lo: 'a', Hi: 'a', To: 0}}
		}
		return m
	}
	if d, err := Of(grown(api.MaxDfa)); err != api.OK || !Same(d, made(state(0, [3]int{'a', 'a', 0}))) {
		t.Errorf("600 sets: %d states, %v", len(d.States), err)
	}
	if d, err := Of(grown(api.MaxDfa + 1)); err != api.ErrMany || d.States != nil {
		t.Errorf("601 sets: %d states, %v", len(d.States), err)
	}
}

func TestOfRunsAsTheOther(t *testing.T) {
	texts := sample.Texts([]string{"a", "b", "c", "d", "\x00"}, 5)
	seed := sample.Seed(6)
	sizes := make([]int, 64)
	for range 400 {
		m := drawnMany(&seed, 5)
		d, err := Of(m)
		if err != api.OK || !Fit(d) || !Same(Least(d), d) {
			t.Fatalf("of %v: %v, %v", m, d, err)
		}
		sizes[len(d.States)]++
		for _, s := range texts {
			n, what := Run(d, s)
			if far, a := nfa.Run(m, s); n != far || what != a {
				t.Fatalf("of %v: Run on %q: %d, %d, not %d, %d", m, s, n, what, far, a)
			}
		}
	}
	if slices.Contains(sizes[1:8], 0) {
		t.Errorf("not each size has been met: %v", sizes)
	}
}

func TestOfIsTheLeast(t *testing.T) {
	more := sample.Texts([]string{"a", "b", "c", "d"}, 4)
	seed := sample.Seed(9)
	for range 200 {
		m := drawnMany(&seed, 3)
		d, err := Of(m)
		want := byWhatIsLeft(func(s string) int { return acceptOfMany(m, s) }, "abcd", more)
		if err != api.OK || !Same(d, want) {
			t.Fatalf("of %v: %v, %v, not %v", m, d, err, want)
		}
	}
}

func TestOfExpressions(t *testing.T) {
	parts := []string{"a", "b", "é", "€", "𝄞", "\n", "\xc3", "\xff"}
	texts := sample.Texts(parts, 3)
	for _, l := range [][]string{
		{"a*b|é+", ".", "[^a]*"},
		{"[a-é]+", "[^é-€]", "€𝄞"},
		{"(a|b)*b(a|b)?", `\n+`, "a?b?a?"},
		{"()", "a"},
		{"[^b]*", "b(é|€)*", "b"},
	} {
		m, d := many(t, l...), of(t, l...)
		for _, s := range texts {
			n, what := Run(d, s)
			if far, a := nfa.Run(m, s); n != far || what != a {
				t.Errorf("of %q: Run on %q: %d, %d, not %d, %d", l, s, n, what, far, a)
			}
		}
	}
}

func TestOfAcceptsTheLeastNumber(t *testing.T) {
	m := api.Nfa{States: []api.Nstate{
		{Accept: -1, Eps: []int{1, 2, 3, 4}}, {Accept: 7}, {Accept: -1}, {Accept: 2}, {Accept: most},
	}}
	if d, err := Of(m); err != api.OK || !Same(d, made(state(2))) {
		t.Errorf("%v, %v", d, err)
	}
	m.States[1].Accept, m.States[3].Accept = -1, -1
	if d, err := Of(m); err != api.OK || !Same(d, made(state(most))) {
		t.Errorf("%v, %v", d, err)
	}
}

func TestOfLeavesItsArgument(t *testing.T) {
	seed := sample.Seed(5)
	for range 300 {
		m := drawnMany(&seed, 5)
		before := api.Nfa{States: slices.Clone(m.States)}
		for i, s := range m.States {
			m.States[i].Eps = append(make([]int, 0, 9), s.Eps...)
			m.States[i].Arcs = append(make([]api.Arc, 0, 9), s.Arcs...)
		}
		d, _ := Of(m)
		want := roomy(d)
		spoil(d)
		for i, s := range m.States {
			b := before.States[i]
			if s.Accept != b.Accept || !slices.Equal(s.Eps, b.Eps) || !slices.Equal(s.Arcs, b.Arcs) {
				t.Fatalf("Of has changed %v", before)
			}
			if s.Arcs[:9][8] != (api.Arc{}) || s.Eps[:9][8] != 0 {
				t.Fatalf("Of has written behind the lists of %v", before)
			}
		}
		if again, _ := Of(m); !Same(again, want) {
			t.Fatalf("Of tells %v, then %v", want, again)
		}
	}
}
