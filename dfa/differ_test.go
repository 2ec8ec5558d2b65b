package dfa

import (
	"slices"
	"strings"
	"testing"

	"bramble/api"
	"bramble/sample"
)

// firstUnlike is the first of some texts that two machines accept unlike.
func firstUnlike(a, b api.Dfa, texts []string) (string, bool) {
	i := slices.IndexFunc(texts, func(s string) bool { return acceptOf(a, s) != acceptOf(b, s) })
	if i < 0 {
		return "", false
	}
	return texts[i], true
}

func TestDifferTold(t *testing.T) {
	none := made(state(-1))
	chapter := made(state(-1, [3]int{'a', 'a', 1}), state(0, [3]int{'b', 'b', 2}), state(0))
	other := made(state(-1, [3]int{'a', 'a', 1}), state(0, [3]int{'a', 'a', 2}, [3]int{'b', 'b', 3}), state(0, [3]int{'a', 'a', 2}), state(0))
	all := made(state(0, [3]int{0, 255, 0}))
	but := func(lo, hi int) api.Dfa {
		return made(state(0, [3]int{0, lo - 1, 0}, [3]int{hi + 1, 255, 0}))
	}
	for _, c := range []struct {
		name string
		a, b api.Dfa
		want string
		ok   bool
	}{
		{"the chapter's", chapter, other, "aa", true},
		{"a machine and itself", chapter, chapter, "", false},
		{"nothing and nothing", none, none, "", false},
		{"nothing, and dead ones", none, made(state(-1, [3]int{0, 255, 1}), state(-1, [3]int{0, 255, 0})), "", false},
		{"at the empty text", none, made(state(0)), "", true},
		{"at the empty text, by number", made(state(1)), made(state(0)), "", true},
		{"at the empty text and others", all, chapter, "", true},
		{"at each letter", all, made(state(0)), "\x00", true},
		{"at the first of some letters", all, but('b', 'y'), "b", true},
		{"at letters of unlike lengths", but('b', 'c'), but('c', 'x'), "b", true},
		{"at the last byte", all, made(state(0, [3]int{0, 254, 0})), "\xff", true},
		{"by number alone", made(state(0, [3]int{0, 255, 1}), state(1)), made(state(0, [3]int{0, 255, 1}), state(2)), "\x00", true},
		{"at several of one length", of(t, "ab|ba|bb"), of(t, "bb|ca"), "ab", true},
		{"the shorter one though it is behind", of(t, "aaa|z"), of(t, "x"), "x", true},
		{"the shorter one, within one machine", of(t, "aaa|zb"), of(t, "aab"), "zb", true},
		{"where one of them has ended", of(t, "(ab)+"), of(t, "ab|abab"), "ababab", true},
		{"where both have gone on", of(t, "(ab)*"), of(t, "(abab)*"), "ab", true},
		{"a long one", row(api.MaxDfa, 'a'), row(api.MaxDfa-1, 'a'), strings.Repeat("a", api.MaxDfa-2), true},
		{"a long one alone", row(api.MaxDfa, 'q'), none, strings.Repeat("q", api.MaxDfa-1), true},
		{"unlike where none leads", made(state(0), state(1)), made(state(0), state(2)), "", false},
	} {
		if got, ok := Differ(c.a, c.b); got != c.want || ok != c.ok {
			t.Errorf("%s: %q, %v, not %q, %v", c.name, got, ok, c.want, c.ok)
		}
		if got, ok := Differ(c.b, c.a); got != c.want || ok != c.ok {
			t.Errorf("%s, changed: %q, %v, not %q, %v", c.name, got, ok, c.want, c.ok)
		}
	}
}

func TestDifferOfRings(t *testing.T) {
	ring := func(n int) api.Dfa {
		d := row(n, 'a')
		d.States[n-1].Arcs = []api.Arc{{Lo: 'a', Hi: 'a', To: 0}}
		return d
	}
	for _, c := range [][3]int{{2, 3, 1}, {4, 6, 3}, {599, 600, 598}, {3, 3, -1}} {
		got, ok := Differ(ring(c[0]), ring(c[1]))
		if want := strings.Repeat("a", max(0, c[2])); got != want || ok != (c[2] >= 0) {
			t.Errorf("rings of %d and %d: %d bytes, %v", c[0], c[1], len(got), ok)
		}
	}
	all := func(n int) api.Dfa {
		d := ring(n)
		for i := range d.States {
			d.States[i].Accept = 0
		}
		return d
	}
	if s, ok := Differ(all(599), all(600)); ok {
		t.Errorf("rings that accept all: %q", s)
	}
}

func TestDifferOfAllSmall(t *testing.T) {
	texts := sample.Texts([]string{"a", "b"}, 5)
	all := append(smalls(1, "ab"), smalls(2, "ab")...)
	for i, a := range all {
		for _, b := range all[i/2:] {
			got, ok := Differ(a, b)
			if want, unlike := firstUnlike(a, b, texts); got != want || ok != unlike {
				t.Fatalf("Differ of %v and %v: %q, %v, not %q, %v", a, b, got, ok, want, unlike)
			}
		}
	}
}

// TestDifferOfNearOnes takes machines that are alike but for their last state: so they differ far behind, if at all.
func TestDifferOfNearOnes(t *testing.T) {
	texts := sample.Texts([]string{"a", "b"}, 9)
	seed := sample.Seed(2)
	lengths := make([]int, 10)
	for range 4000 {
		a := drawn(&seed, 5, "ab")
		b := roomy(a)
		n := len(b.States)
		b.States[n-1] = over(a.States[n-1].Accept, "ab", []int{seed.Below(n+1) - 1, seed.Below(n)})
		got, ok := Differ(a, b)
		if want, unlike := firstUnlike(a, b, texts); got != want || ok != unlike {
			t.Fatalf("Differ of %v and %v: %q, %v, not %q, %v", a, b, got, ok, want, unlike)
		}
		lengths[len(got)]++
	}
	if slices.Contains(lengths[:4], 0) {
		t.Errorf("so many of each length: %v", lengths)
	}
}

func TestOneLeastJustIfNoneDiffers(t *testing.T) {
	all := append(smalls(1, "ab"), smalls(2, "ab")...)
	lasts := make([]api.Dfa, len(all))
	for i, d := range all {
		lasts[i] = Least(d)
		if s, ok := Differ(d, lasts[i]); ok {
			t.Fatalf("%v and its least one, %v, are unlike at %q", d, lasts[i], s)
		}
	}
	both := 0
	for i, a := range all {
		for k := i; k < len(all); k += 3 {
			_, unlike := Differ(a, all[k])
			if Same(lasts[i], lasts[k]) == unlike {
				t.Fatalf("%v and %v: Differ tells %v; the least ones: %v and %v", a, all[k], unlike, lasts[i], lasts[k])
			}
			if !unlike {
				both++
			}
		}
	}
	if both <= len(all) {
		t.Errorf("only %d are alike", both)
	}
}

func TestDifferLeavesItsArguments(t *testing.T) {
	seed := sample.Seed(3)
	for range 300 {
		a, b := roomy(drawn(&seed, 5, "abc")), roomy(drawn(&seed, 5, "abc"))
		first, second := full(a), full(b)
		Differ(a, b)
		Run(a, "abc")
		Seen(a, "abc")
		Fit(a)
		Same(a, b)
		if !Same(full(a), first) || !Same(full(b), second) {
			t.Fatalf("a call has changed %v or %v", first, second)
		}
	}
}
