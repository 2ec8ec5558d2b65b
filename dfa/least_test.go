package dfa

import (
	"slices"
	"testing"

	"bramble/api"
	"bramble/sample"
)

// byWhatIsLeft is the least machine over some letters that accepts each text as is told: texts are told apart by what they and each of some more, behind them, are accepted with.
func byWhatIsLeft(accept func(string) int, letters string, more []string) api.Dfa {
	left := func(s string) string {
		var all []byte
		for _, m := range more {
			all = append(all, byte(accept(s+m)+1))
		}
		return string(all)
	}
	dead := string(make([]byte, len(more)))
	firsts, lefts := []string{""}, []string{left("")}
	var d api.Dfa
	for i := 0; i < len(firsts); i++ {
		s := api.Dstate{Accept: accept(firsts[i])}
		for _, c := range []byte(letters) {
			to := firsts[i] + string(rune(c))
			if left(to) == dead {
				continue
			}
			n := slices.Index(lefts, left(to))
			if n < 0 {
				n = len(firsts)
				firsts, lefts = append(firsts, to), append(lefts, left(to))
			}
			last := len(s.Arcs) - 1
			if last >= 0 && s.Arcs[last].To == n && s.Arcs[last].Hi == int(c)-1 {
				s.Arcs[last].Hi++
				continue
			}
			s.Arcs = append(s.Arcs, api.Arc{Lo: int(c), Hi: int(c), To: n})
		}
		d.States = append(d.States, s)
	}
	return d
}

func TestLeastTold(t *testing.T) {
	none := state(-1)
	a := func(to int) [3]int { return [3]int{'a', 'a', to} }
	b := func(to int) [3]int { return [3]int{'b', 'b', to} }
	for _, c := range []struct {
		name    string
		d, want api.Dfa
	}{
		{"one state", made(none), made(none)},
		{"one that accepts", made(state(5)), made(state(5))},
		{"the greatest number", made(state(most)), made(state(most))},
		{"0 is dead, and led to", made(state(-1, a(0))), made(none)},
		{"0 is dead, among dead ones", made(state(-1, a(1), b(2)), state(-1, a(0)), state(-1, a(2))), made(none)},
		{"0 is dead, what accepts is never met", made(state(-1, a(0)), state(3, a(0))), made(none)},
		{"0 is alike to one it leads to", made(state(1, a(1)), state(1, a(0))), made(state(1, a(0)))},
		{"a dead one behind", made(state(0, a(0), b(1)), state(-1, [3]int{0, 255, 1})), made(state(0, a(0)))},
		{"a dead one between two arcs", made(state(0, [3]int{0, 9, 0}, [3]int{10, 19, 1}, [3]int{20, 29, 0}), none),
			made(state(0, [3]int{0, 9, 0}, [3]int{20, 29, 0}))},
		{"dead ones that lead to one another", made(state(0, a(1)), state(-1, a(2)), state(-1, a(1))), made(state(0))},
		{"arcs side by side", made(state(-1, a(1), b(1)), state(0)), made(state(-1, [3]int{'a', 'b', 1}), state(0))},
		{"arcs side by side, many", made(state(-1, [3]int{0, 0, 1}, [3]int{1, 9, 1}, [3]int{10, 254, 1}, [3]int{255, 255, 1}), state(0)),
			made(state(-1, [3]int{0, 255, 1}), state(0))},
		{"arcs side by side to itself", made(state(0, a(0), b(0))), made(state(0, [3]int{'a', 'b', 0}))},
		{"arcs side by side to alike ones", made(state(-1, a(1), b(2)), state(0), state(0)), made(state(-1, [3]int{'a', 'b', 1}), state(0))},
		{"arcs side by side to unlike ones", made(state(-1, a(1), b(2)), state(0), state(1)), made(state(-1, a(1), b(2)), state(0), state(1))},
		{"arcs with a gap", made(state(-1, a(1), [3]int{'c', 'c', 1}), state(0)), made(state(-1, a(1), [3]int{'c', 'c', 1}), state(0))},
		{"a byte 1 ahead, none behind", made(state(0, [3]int{1, 1, 0})), made(state(0, [3]int{1, 1, 0}))},
		{"unlike by Accept alone", made(state(-1, a(1), b(2)), state(1), state(2)), made(state(-1, a(1), b(2)), state(1), state(2))},
		{"alike by what is behind", made(state(-1, a(1), b(2)), state(-1, a(3)), state(-1, a(4)), state(0), state(0)),
			made(state(-1, [3]int{'a', 'b', 1}), state(-1, a(2)), state(0))},
		{"unlike by what is far behind", made(state(-1, a(1), b(2)), state(-1, a(3)), state(-1, a(4)), state(0), state(1)),
			made(state(-1, a(1), b(2)), state(-1, a(3)), state(-1, a(4)), state(0), state(1))},
		{"alike though cut otherwise", made(state(-1, a(1), b(2)), state(0, [3]int{0, 5, 1}, [3]int{6, 9, 2}), state(0, [3]int{0, 9, 1})),
			made(state(-1, [3]int{'a', 'b', 1}), state(0, [3]int{0, 9, 1}))},
		{"alike but for an arc to a dead one", made(state(-1, a(1), b(2)), state(0, a(3)), state(0), none),
			made(state(-1, [3]int{'a', 'b', 1}), state(0))},
		{"never met", made(state(0), state(1, a(0)), state(2, a(1))), made(state(0))},
		{"never met between others", made(state(0, a(2)), state(5, a(0)), state(1)), made(state(0, a(1)), state(1))},
		{"numbered anew", made(state(-1, a(3), b(1)), state(1, a(2)), state(2), state(3, b(2))),
			made(state(-1, a(1), b(2)), state(3, b(3)), state(1, a(3)), state(2))},
		{"numbered state by state", made(state(-1, a(1), b(3)), state(1, a(2)), state(2), state(3)),
			made(state(-1, a(1), b(2)), state(1, a(3)), state(3), state(2))},
	} {
		got := Least(c.d)
		if !Same(got, c.want) {
			t.Errorf("%s: %v, not %v", c.name, got, c.want)
		}
		if again := Least(got); !Same(again, got) {
			t.Errorf("%s: the least of the least is %v", c.name, again)
		}
	}
}

func TestLeastOfAllSmall(t *testing.T) {
	for _, letters := range []string{"ab", "ac", "\x00\x01"} {
		more := sample.Texts([]string{letters[:1], letters[1:]}, 3)
		all := append(smalls(1, letters), smalls(2, letters)...)
		if letters == "ab" {
			all = append(all, smalls(3, letters)...)
		}
		for _, d := range all {
			got := Least(d)
			want := byWhatIsLeft(func(s string) int { return acceptOf(d, s) }, letters, more)
			if !Same(got, want) {
				t.Fatalf("Least of %v: %v, not %v", d, got, want)
			}
		}
	}
}

// TestLeastIsTheSameFromAnyOrder takes a machine with its states in another order, and each with a twin.
func TestLeastIsTheSameFromAnyOrder(t *testing.T) {
	seed := sample.Seed(4)
	sizes := make([]int, 10)
	for range 3000 {
		d := drawn(&seed, 9, "abdfz")
		want := Least(d)
		if !Fit(want) || !Same(Least(want), want) {
			t.Fatalf("Least of %v: %v, not fit or not least", d, want)
		}
		if s, ok := Differ(d, want); ok {
			t.Fatalf("Least of %v: %v, unlike at %q", d, want, s)
		}
		sizes[len(want.States)]++
		if got := Least(mixed(&seed, d)); !Same(got, want) {
			t.Fatalf("Least of %v: %v; mixed: %v", d, want, got)
		}
	}
	if slices.Contains(sizes[1:], 0) {
		t.Errorf("not each size has been met: %v", sizes)
	}
}

// mixed is a machine with two states for each, all but the first in any order; arcs lead to either.
func mixed(seed *sample.Seed, d api.Dfa) api.Dfa {
	n := len(d.States)
	places := make([]int, 2*n)
	for i := range places {
		places[i] = i
	}
	for i := range places[2:] {
		k := 1 + seed.Below(i+2)
		places[i+2], places[k] = places[k], places[i+2]
	}
	out := api.Dfa{States: make([]api.Dstate, 2*n)}
	for i := range 2 * n {
		s := state(d.States[i%n].Accept)
		for _, x := range d.States[i%n].Arcs {
			x.To = places[x.To+n*seed.Below(2)]
			s.Arcs = append(s.Arcs, x)
		}
		out.States[places[i]] = s
	}
	return out
}

// row is a machine of n states in a row by one byte; the last accepts 0.
func row(n int, c int) api.Dfa {
	var d api.Dfa
	for i := range n - 1 {
		d.States = append(d.States, state(-1, [3]int{c, c, i + 1}))
	}
	return made(append(d.States, state(0))...)
}

func TestLeastOfMany(t *testing.T) {
	long := row(api.MaxDfa, 'a')
	if got := Least(long); !Same(got, long) {
		t.Error("a row of all states is not its own least")
	}
	wide := made()
	for i := range api.MaxDfa {
		s := state(i % 3)
		for c := range 256 {
			s.Arcs = append(s.Arcs, api.Arc{Lo: c, Hi: c, To: (i + 3*c + c%2) % api.MaxDfa})
		}
		wide.States = append(wide.States, s)
	}
	got := Least(wide)
	if len(got.States) != 3 || len(got.States[0].Arcs) != 256 {
		t.Errorf("a wide machine has %d states", len(got.States))
	}
	for i := range wide.States {
		wide.States[i].Accept = 9
	}
	if got = Least(wide); !Same(got, made(state(9, [3]int{0, 255, 0}))) {
		t.Errorf("a machine of alike states is %v", got)
	}
	ring := made(slices.Repeat([]api.Dstate{state(-1)}, api.MaxDfa)...)
	for i := range ring.States {
		ring.States[i] = state(max(-1, 1-i%200), [3]int{'x', 'x', (i + 7) % api.MaxDfa})
	}
	if got = Least(ring); len(got.States) != 200 {
		t.Errorf("a ring of 200, thrice, has %d states", len(got.States))
	}
}

func TestLeastLeavesItsArgument(t *testing.T) {
	seed := sample.Seed(8)
	for range 300 {
		d := roomy(drawn(&seed, 6, "abc"))
		before := full(d)
		got := Least(d)
		if !Same(full(d), before) {
			t.Fatalf("Least has changed %v", before)
		}
		want := roomy(got)
		spoil(got)
		if !Same(full(d), before) {
			t.Fatalf("Least of %v shares memory with it", before)
		}
		if again := Least(d); !Same(again, want) {
			t.Fatalf("Least tells %v, then %v", want, again)
		}
	}
}

func TestLeastListsShareNothing(t *testing.T) {
	got := Least(made(state(0, [3]int{'a', 'a', 1}, [3]int{'c', 'c', 2}), state(1, [3]int{'a', 'a', 0}), state(2, [3]int{'b', 'c', 0})))
	want := roomy(got)
	for i := range got.States {
		_ = append(got.States[i].Arcs, api.Arc{Lo: 7, Hi: 7, To: 7})
	}
	if !Same(got, want) {
		t.Errorf("lists share memory: %v, not %v", got, want)
	}
}
