package nfa

import (
	"slices"
	"testing"

	"bramble/api"
)

func TestFitTold(t *testing.T) {
	const least, most = -1 << 63, 1<<63 - 1
	none := state(-1)
	for _, c := range []struct {
		name string
		m    api.Nfa
		want bool
	}{
		{"no list", api.Nfa{}, false},
		{"no state", machine([]api.Nstate{}...), false},
		{"one state", machine(none), true},
		{"accepts 0", machine(state(0)), true},
		{"accepts the greatest number", machine(state(most)), true},
		{"accepts -2", machine(state(-2)), false},
		{"accepts the least number", machine(state(least)), false},
		{"the last accepts -2", machine(none, none, state(-2)), false},
		{"Eps to itself, twice", machine(state(-1, 0, 0)), true},
		{"Eps to the last", machine(state(-1, 1), none), true},
		{"Eps behind the last", machine(state(-1, 2), none), false},
		{"Eps to -1", machine(state(-1, -1), none), false},
		{"Eps to the greatest number", machine(state(-1, 0, most)), false},
		{"Eps to the least number", machine(state(-1, least)), false},
		{"the last of several Eps", machine(none, state(-1, 0, 1, 2)), false},
		{"arc by 0", machine(by(none, [3]int{0, 0, 0})), true},
		{"arc by 255", machine(by(none, [3]int{255, 255, 0})), true},
		{"arc by all", machine(by(none, [3]int{0, 255, 0})), true},
		{"arcs that overlap", machine(by(none, [3]int{9, 99, 0}, [3]int{0, 255, 0}, [3]int{9, 99, 0})), true},
		{"arc by none", machine(by(none, [3]int{1, 0, 0})), false},
		{"arc by none, far apart", machine(by(none, [3]int{255, 0, 0})), false},
		{"arc from -1", machine(by(none, [3]int{-1, 0, 0})), false},
		{"arc by -1", machine(by(none, [3]int{-1, -1, 0})), false},
		{"arc to 256", machine(by(none, [3]int{0, 256, 0})), false},
		{"arc by 256", machine(by(none, [3]int{256, 256, 0})), false},
		{"arc from the least number", machine(by(none, [3]int{least, 5, 0})), false},
		{"arc to the greatest number", machine(by(none, [3]int{5, most, 0})), false},
		{"arc to the last", machine(by(none, [3]int{5, 6, 1}), none), true},
		{"arc behind the last", machine(by(none, [3]int{5, 6, 2}), none), false},
		{"arc to state -1", machine(by(none, [3]int{5, 6, -1})), false},
		{"arc to no state", machine(by(none, [3]int{5, 6, most})), false},
		{"the last of several arcs", machine(none, by(none, [3]int{0, 9, 1}, [3]int{0, 9, 0}, [3]int{0, 9, 2})), false},
		{"as many states as there may be", machine(slices.Repeat([]api.Nstate{none}, api.MaxNfa)...), true},
		{"one state too many", machine(slices.Repeat([]api.Nstate{none}, api.MaxNfa+1)...), false},
	} {
		if Fit(c.m) != c.want {
			t.Errorf("%s: Fit is not %v", c.name, c.want)
		}
	}
}

func TestFitOfAllSmall(t *testing.T) {
	for _, m := range smalls() {
		if !Fit(m) {
			t.Fatalf("%v is not fit", m)
		}
		last := len(m.States) - 1
		wrong := copied(m)
		wrong.States[last].Accept = -2
		far := copied(m)
		far.States[last].Eps = append(far.States[last].Eps, last+1)
		if Fit(wrong) || Fit(far) {
			t.Fatalf("%v is fit with a wrong state", m)
		}
	}
}
