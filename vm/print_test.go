package vm

import (
	"slices"
	"testing"

	"bramble/api"
)

func TestPrintTold(t *testing.T) {
	for _, c := range []struct {
		p    []api.Ins
		want string
	}{
		{[]api.Ins{ins(api.InYes, 0, 0, 0)}, "yes"},
		{[]api.Ins{ins(api.InNo, 0, 0, 0)}, "no"},
		{[]api.Ins{ins(api.InChar, 0, 255, 1)}, "char 0 255 1"},
		{[]api.Ins{ins(api.InChar, 0, 0, 0)}, "char 0 0 0"},
		{[]api.Ins{ins(api.InIs, 7, 0, 1)}, "is 7 1"},
		{[]api.Ins{ins(api.InSet, 0, 0, 0)}, "set 0"},
		{[]api.Ins{ins(api.InAdd, 100, 0, 0)}, "add 100"},
		{[]api.Ins{ins(api.InGoto, 0, 0, 0)}, "goto 0"},
		{[]api.Ins{ins(api.InYes, 0, 0, 0), ins(api.InNo, 0, 0, 0)}, "yes; no"},
		{
			[]api.Ins{ins(api.InChar, 97, 98, 3), ins(api.InIs, 1, 0, 0), ins(api.InGoto, 0, 0, 3)},
			"char 97 98 3; is 1 0; goto 3",
		},
		{slices.Repeat([]api.Ins{ins(api.InNo, 0, 0, 0)}, 64), repeated("no", 64)},
	} {
		if got := Print(c.p); got != c.want {
			t.Errorf("%v: %q, not %q", c.p, got, c.want)
		}
	}
}

// thereAndBack checks that Parse of Print of a program is it.
func thereAndBack(t *testing.T, p []api.Ins) {
	t.Helper()
	if back, f := Parse(Print(p)); f != (api.Fault{}) || !slices.Equal(back, p) {
		t.Fatalf("%v is written as %q, and read as %v, %v", p, Print(p), back, f)
	}
}

func TestThereAndBack(t *testing.T) {
	for n := 1; n <= 2; n++ {
		for _, p := range programs(n) {
			thereAndBack(t, p)
		}
	}
	for n := 1; n <= 64; n++ {
		for z := range n + 1 {
			p := slices.Repeat([]api.Ins{ins(api.InYes, 0, 0, 0)}, n)
			p[z%n] = ins(api.InChar, z, 255-z, z)
			thereAndBack(t, p)
		}
	}
	for x := range 256 {
		for y := x; y < 256; y++ {
			thereAndBack(t, []api.Ins{ins(api.InChar, x, y, 1)})
		}
		thereAndBack(t, []api.Ins{ins(api.InIs, x, 0, 1), ins(api.InSet, x, 0, 0), ins(api.InAdd, x, 0, 0)})
	}
}

func TestPrintUnfit(t *testing.T) {
	for name, p := range unfit() {
		if got := Print(p); got != "" {
			t.Errorf("%s: %q", name, got)
		}
	}
}
