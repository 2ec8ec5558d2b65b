package dfa

import (
	"slices"
	"testing"

	"bramble/api"
)

func TestFitTold(t *testing.T) {
	none := state(-1)
	one := func(lo, hi, to int) api.Dfa { return made(state(-1, [3]int{lo, hi, to}), none) }
	two := func(lo, hi, from, to int) api.Dfa {
		return made(none, state(3, [3]int{lo, hi, 1}, [3]int{from, to, 0}))
	}
	for _, c := range []struct {
		name string
		d    api.Dfa
		want bool
	}{
		{"no list", api.Dfa{}, false},
		{"no state", made([]api.Dstate{}...), false},
		{"one state", made(none), true},
		{"accepts 0", made(state(0)), true},
		{"accepts the greatest number", made(state(most)), true},
		{"accepts -2", made(state(-2)), false},
		{"accepts the least number", made(state(least)), false},
		{"the last accepts -2", made(none, none, state(-2)), false},
		{"the first accepts -2", made(state(-2), none, none), false},
		{"arc by 0", one(0, 0, 0), true},
		{"arc by 255", one(255, 255, 0), true},
		{"arc by all", one(0, 255, 0), true},
		{"arc by none", one(1, 0, 0), false},
		{"arc by none, far apart", one(255, 0, 0), false},
		{"arc by none, behind the others", two(0, 9, 20, 19), false},
		{"arc from -1", one(-1, 0, 0), false},
		{"arc by -1", one(-1, -1, 0), false},
		{"arc to 256", one(0, 256, 0), false},
		{"arc by 256", one(256, 256, 0), false},
		{"arc by 256, behind another one", two(255, 255, 256, 256), false},
		{"arc from the least number", one(least, 5, 0), false},
		{"arc to the greatest number", one(5, most, 0), false},
		{"arc ahead of one, to the greatest number", two(5, most, least, 9), false},
		{"arc to the last", one(5, 6, 1), true},
		{"arc behind the last", one(5, 6, 2), false},
		{"arc to state -1", one(5, 6, -1), false},
		{"arc to no state", one(5, 6, most), false},
		{"arc to no state at all", one(5, 6, least), false},
		{"arcs side by side", two(5, 6, 7, 8), true},
		{"arcs side by side to the same state", made(state(-1, [3]int{5, 6, 0}, [3]int{7, 8, 0})), true},
		{"arcs with a gap", two(5, 6, 9, 9), true},
		{"arcs that share a byte", two(5, 6, 6, 8), false},
		{"arcs that overlap", two(5, 9, 6, 8), false},
		{"the same arc twice", made(state(-1, [3]int{5, 6, 0}, [3]int{5, 6, 0})), false},
		{"falling arcs", two(7, 8, 5, 6), false},
		{"a state that nothing leads to", made(none, state(1, [3]int{0, 255, 1})), true},
		{"as many states as there may be", made(slices.Repeat([]api.Dstate{none}, api.MaxDfa)...), true},
		{"one state too many", made(slices.Repeat([]api.Dstate{none}, api.MaxDfa+1)...), false},
		{"arc to the last of all", made(slices.Repeat([]api.Dstate{state(1, [3]int{0, 255, 599})}, api.MaxDfa)...), true},
	} {
		if Fit(c.d) != c.want {
			t.Errorf("%s: Fit is not %v", c.name, c.want)
		}
	}
	for i, d := range unfit() {
		if Fit(d) {
			t.Errorf("the one of place %d is fit", i)
		}
	}
}

func TestFitByEachByte(t *testing.T) {
	for lo := -2; lo < 258; lo++ {
		for hi := -2; hi < 258; hi++ {
			want := 0 <= lo && lo <= hi && hi <= 255
			if Fit(made(state(0, [3]int{lo, hi, 0}))) != want {
				t.Fatalf("arc by %d to %d: Fit is not %v", lo, hi, want)
			}
		}
	}
}

func TestSameTold(t *testing.T) {
	base := made(state(1, [3]int{5, 6, 1}, [3]int{8, 9, 0}), state(-1))
	change := func(f func(d api.Dfa)) api.Dfa {
		d := roomy(base)
		f(d)
		return d
	}
	if !Same(base, base) || !Same(base, roomy(base)) {
		t.Error("a machine is not the same as itself")
	}
	for name, d := range map[string]api.Dfa{
		"no states":       {},
		"one state less":  made(base.States[0]),
		"one state more":  made(base.States[0], base.States[1], state(-1)),
		"states changed":  made(base.States[1], base.States[0]),
		"Accept":          change(func(d api.Dfa) { d.States[0].Accept = 2 }),
		"the last Accept": change(func(d api.Dfa) { d.States[1].Accept = 0 }),
		"Lo":              change(func(d api.Dfa) { d.States[0].Arcs[1].Lo = 9 }),
		"Hi":              change(func(d api.Dfa) { d.States[0].Arcs[0].Hi = 5 }),
		"To":              change(func(d api.Dfa) { d.States[0].Arcs[0].To = 0 }),
		"one arc less":    change(func(d api.Dfa) { d.States[0].Arcs = d.States[0].Arcs[:1] }),
		"one arc more":    change(func(d api.Dfa) { d.States[1].Arcs = []api.Arc{{}} }),
	} {
		if Same(base, d) || Same(d, base) {
			t.Errorf("%s: the same", name)
		}
		if !Same(d, roomy(d)) {
			t.Errorf("%s: not the same as itself", name)
		}
	}
	empty := made(api.Dstate{Arcs: []api.Arc{}, Accept: 4})
	if !Same(empty, made(state(4))) || !Same(made([]api.Dstate{}...), api.Dfa{}) {
		t.Error("an empty list is not the same as none")
	}
	for i, a := range unfit() {
		for k, b := range unfit() {
			alike := i == k || i+k == 1
			if Same(a, b) != alike {
				t.Errorf("those of the places %d and %d: not %v", i, k, alike)
			}
		}
	}
}
