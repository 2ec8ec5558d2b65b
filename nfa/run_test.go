package nfa

import (
	"math/bits"
	"slices"
	"testing"

	"bramble/api"
	"bramble/sample"
)

// closed is the closure of some states by rounds: what Eps leads to is put to it till nothing is new. States are bits.
func closed(m api.Nfa, in uint64) uint64 {
	for was := ^in; was != in; {
		was = in
		for n, s := range m.States {
			for _, to := range s.Eps {
				if in>>n&1 == 1 {
					in |= 1 << to
				}
			}
		}
	}
	return in
}

// moved is the closure of where a byte leads to.
func moved(m api.Nfa, in uint64, c byte) uint64 {
	var out uint64
	for n, s := range m.States {
		for _, x := range s.Arcs {
			if in>>n&1 == 1 && x.Lo <= int(c) && int(c) <= x.Hi {
				out |= 1 << x.To
			}
		}
	}
	return closed(m, out)
}

// ran is Run, by the words of the chapter.
func ran(m api.Nfa, s string) (int, int) {
	for n := len(s); n >= 0; n-- {
		in := closed(m, 1)
		for _, c := range []byte(s[:n]) {
			in = moved(m, in, c)
		}
		var all []int
		for _, i := range bitsOf(in) {
			if a := m.States[i].Accept; a != -1 {
				all = append(all, a)
			}
		}
		if len(all) > 0 {
			return n, slices.Min(all)
		}
	}
	return 0, -1
}

// bitsOf is the states of bits, rising.
func bitsOf(in uint64) []int {
	var out []int
	for ; in != 0; in &= in - 1 {
		out = append(out, bits.TrailingZeros64(in))
	}
	return out
}

func TestClosureTold(t *testing.T) {
	m := machine(state(0, 2), state(0), state(0, 4, 0), state(0, 1), state(0, 4))
	for _, c := range []struct {
		l, want []int
	}{
		{nil, nil},
		{[]int{0}, []int{0, 2, 4}},
		{[]int{1}, []int{1}},
		{[]int{2}, []int{0, 2, 4}},
		{[]int{3}, []int{1, 3}},
		{[]int{4}, []int{4}},
		{[]int{4, 1}, []int{1, 4}},
		{[]int{3, 2, 3, 2}, []int{0, 1, 2, 3, 4}},
		{[]int{5}, nil},
		{[]int{-1}, nil},
		{[]int{5, 1, -1, 1<<63 - 1, -1 << 63, 64}, []int{1}},
	} {
		if got := Closure(m, c.l); !slices.Equal(got, c.want) || got != nil && len(got) == 0 {
			t.Errorf("Closure(%v) = %v, not %v", c.l, got, c.want)
		}
	}
}

func TestStepTold(t *testing.T) {
	m := machine(
		by(state(0, 1), [3]int{'a', 'c', 2}, [3]int{'b', 'b', 1}),
		by(state(0), [3]int{0, 0, 0}, [3]int{255, 255, 3}),
		by(state(0, 3), [3]int{'c', 'c', 1}, [3]int{'c', 'd', 1}),
		state(0),
	)
	for _, c := range []struct {
		l    []int
		c    byte
		want []int
	}{
		{nil, 'a', nil},
		{[]int{0}, 'a', []int{2, 3}},
		{[]int{0}, 'b', []int{1, 2, 3}},
		{[]int{0}, 'c', []int{2, 3}},
		{[]int{0}, 'd', nil},
		{[]int{0}, 'a' - 1, nil},
		{[]int{0}, 0, nil}, // what Eps leads to from 0 is not asked
		{[]int{1}, 0, []int{0, 1}},
		{[]int{1}, 1, nil},
		{[]int{1}, 254, nil},
		{[]int{1}, 255, []int{3}},
		{[]int{2}, 'c', []int{1}},
		{[]int{2, 0}, 'c', []int{1, 2, 3}},
		{[]int{2, 0, 2, 0, 4, -1, 64}, 'c', []int{1, 2, 3}},
		{[]int{3}, 'a', nil},
		{[]int{4, -1, 1<<63 - 1, -1 << 63}, 'a', nil},
	} {
		if got := Step(m, c.l, c.c); !slices.Equal(got, c.want) || got != nil && len(got) == 0 {
			t.Errorf("Step(%v, %d) = %v, not %v", c.l, c.c, got, c.want)
		}
	}
}

// States beyond the first sixty-four, one behind the other.
func TestClosureOfMany(t *testing.T) {
	var m api.Nfa
	var all []int
	for i := range api.MaxNfa {
		s := by(state(i, max(i-1, 0)), [3]int{'a', 'a', i}, [3]int{'b', 'b', min(i+1, api.MaxNfa-1)})
		m.States = append(m.States, s)
		all = append(all, i)
	}
	for _, n := range []int{0, 1, 62, 63, 64, 65, 127, 128, 3999} {
		if got := Closure(m, []int{n}); !slices.Equal(got, all[:n+1]) {
			t.Errorf("Closure of %d has %d states", n, len(got))
		}
		if got := Step(m, []int{n}, 'b'); !slices.Equal(got, all[:min(n+2, len(all))]) {
			t.Errorf("Step of %d has %d states", n, len(got))
		}
		if got := Step(m, []int{n}, 'c'); got != nil {
			t.Errorf("Step of %d by none has %v", n, got)
		}
	}
}

func TestClosureAndStepOfAllSmall(t *testing.T) {
	for _, m := range smalls() {
		for in := range uint64(1) << len(m.States) {
			l := bitsOf(in)
			slices.Reverse(l)
			l = append(l, len(m.States), -1)
			if got, want := Closure(m, l), bitsOf(closed(m, in)); !slices.Equal(got, want) {
				t.Fatalf("%v: Closure(%v) = %v, not %v", m, l, got, want)
			}
			for c := byte('a' - 1); c < 'g'; c++ {
				if got, want := Step(m, l, c), bitsOf(moved(m, in, c)); !slices.Equal(got, want) {
					t.Fatalf("%v: Step(%v, %c) = %v, not %v", m, l, c, got, want)
				}
			}
		}
	}
}

// isWithin tells whether each of some numbers is one of others, too.
func isWithin(a, b []int) bool {
	return !slices.ContainsFunc(a, func(n int) bool { return !slices.Contains(b, n) })
}

func TestClosureOfClosure(t *testing.T) {
	for _, m := range smalls() {
		for in := range uint64(1) << len(m.States) {
			l := bitsOf(in)
			got := Closure(m, l)
			if again := Closure(m, got); !slices.Equal(again, got) {
				t.Fatalf("%v: Closure of Closure(%v) = %v, not %v", m, l, again, got)
			}
			if !isWithin(l, got) || !slices.IsSorted(got) {
				t.Fatalf("%v: Closure(%v) = %v", m, l, got)
			}
			for n := range m.States {
				if more := Closure(m, append(l, n)); !isWithin(got, more) {
					t.Fatalf("%v: Closure(%v) = %v, with %d more %v", m, l, got, n, more)
				}
			}
		}
	}
}

func TestRunTold(t *testing.T) {
	const most = 1<<63 - 1
	loop := [3]int{'a', 'b', 0}
	for _, c := range []struct {
		name      string
		m         api.Nfa
		s         string
		far, what int
	}{
		{"accepts at once", machine(state(7)), "", 0, 7},
		{"accepts at once, and goes nowhere", machine(state(7)), "a", 0, 7},
		{"accepts nothing", machine(by(state(-1), loop)), "aab", 0, -1},
		{"accepts nothing of no text", machine(by(state(-1), loop)), "", 0, -1},
		{"accepts all along", machine(by(state(0), loop)), "aabca", 3, 0},
		{"accepts the greatest number", machine(by(state(most), loop)), "a", 1, most},
		{"accepts by Eps", machine(state(-1, 1), state(2)), "", 0, 2},
		{"accepts the least", machine(state(5, 1, 2), state(3), state(4)), "", 0, 3},
		{"accepts 0 ahead of others", machine(state(5, 1, 2), state(-1), state(0)), "", 0, 0},
		{"accepts behind what accepts not", machine(by(state(-1), [3]int{'a', 'a', 1}), by(state(1), [3]int{'b', 'b', 0})), "aba", 3, 1},
		{"goes on, and does not come to it", machine(by(state(-1), [3]int{'a', 'a', 1}), by(state(1), [3]int{'b', 'b', 0})), "abb", 1, 1},
		{"the farther one, though it is greater", machine(by(state(1), [3]int{'a', 'a', 1}), state(9)), "a", 1, 9},
		{"comes nowhere", machine(by(state(-1), [3]int{'a', 'a', 0}), state(1)), "aaa", 0, -1},
		{"by bytes, not letters", machine(by(state(-1), [3]int{0xC3, 0xC3, 1}), state(3)), "é", 1, 3},
		{"by 0 and 255", machine(by(state(1), [3]int{0, 0, 0}, [3]int{255, 255, 0})), "\x00\xff\x00\x01", 3, 1},
	} {
		if far, what := Run(c.m, c.s); far != c.far || what != c.what {
			t.Errorf("%s: %d, %d, not %d, %d", c.name, far, what, c.far, c.what)
		}
	}
}

func TestRunOfAllSmall(t *testing.T) {
	all := append(sample.Texts([]string{"a", "b"}, 4), "aaaaaa", "abcde", "ccc", "dea", "eeeb", "f", "af")
	for _, m := range smalls() {
		for _, s := range all {
			far, what := Run(m, s)
			if n, a := ran(m, s); far != n || what != a {
				t.Fatalf("%v: Run(%q) = %d, %d, not %d, %d", m, s, far, what, n, a)
			}
		}
	}
}
