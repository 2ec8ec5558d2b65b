package vm

import (
	"slices"
	"testing"

	"bramble/api"
)

func TestUnfit(t *testing.T) {
	for name, p := range unfit() {
		if Fit(p) {
			t.Errorf("%s: it is fit", name)
		}
	}
}

func TestFitTold(t *testing.T) {
	yes := ins(api.InYes, 0, 0, 0)
	for _, c := range []struct {
		name string
		p    []api.Ins
	}{
		{"yes", []api.Ins{yes}},
		{"no", []api.Ins{ins(api.InNo, 0, 0, 0)}},
		{"64 operations", slices.Repeat([]api.Ins{yes}, 64)},
		{"char by all", []api.Ins{ins(api.InChar, 0, 255, 0)}},
		{"char by 0", []api.Ins{ins(api.InChar, 0, 0, 0)}},
		{"char by 255", []api.Ins{ins(api.InChar, 255, 255, 1)}},
		{"is 255", []api.Ins{ins(api.InIs, 255, 0, 1)}},
		{"set 255", []api.Ins{ins(api.InSet, 255, 0, 0)}},
		{"add 255", []api.Ins{ins(api.InAdd, 255, 0, 0)}},
		{"goto 0", []api.Ins{ins(api.InGoto, 0, 0, 0)}},
		{"goto behind the last", []api.Ins{ins(api.InGoto, 0, 0, 1)}},
		{"goto behind 64", slices.Repeat([]api.Ins{ins(api.InGoto, 0, 0, 64)}, 64)},
	} {
		if !Fit(c.p) {
			t.Errorf("%s: it is not fit", c.name)
		}
	}
}

// TestFitByEachNumber holds an operation of each kind, with each number, against what the chapter says of it.
func TestFitByEachNumber(t *testing.T) {
	byteLike := func(n int) bool { return 0 <= n && n <= 255 }
	place := func(n int) bool { return 0 <= n && n <= 2 }
	zero := func(n int) bool { return n == 0 }
	rules := map[int][3]func(int) bool{
		api.InChar: {byteLike, byteLike, place},
		api.InIs:   {byteLike, zero, place},
		api.InSet:  {byteLike, zero, zero},
		api.InAdd:  {byteLike, zero, zero},
		api.InGoto: {zero, zero, place},
		api.InYes:  {zero, zero, zero},
		api.InNo:   {zero, zero, zero},
	}
	numbers := []int{least, -257, -256, -1, 0, 1, 2, 3, 64, 65, 97, 254, 255, 256, 257, most}
	for _, op := range []int{least, -1, 0, 1, 2, 3, 4, 5, 6, 7, 8, 9, 256, 257, most} {
		for _, x := range numbers {
			for _, y := range numbers {
				for _, z := range numbers {
					r, known := rules[op]
					want := known && r[0](x) && r[1](y) && r[2](z)
					if op == api.InChar && x > y {
						want = false
					}
					p := []api.Ins{ins(op, x, y, z), ins(api.InNo, 0, 0, 0)}
					if Fit(p) != want {
						t.Fatalf("%v: Fit is not %v", p, want)
					}
					slices.Reverse(p)
					if Fit(p) != want {
						t.Fatalf("%v: Fit is not %v", p, want)
					}
				}
			}
		}
	}
}

func TestFitByLength(t *testing.T) {
	for n := range 70 {
		for z := range 70 {
			p := slices.Repeat([]api.Ins{ins(api.InGoto, 0, 0, z)}, n)
			if want := 1 <= n && n <= 64 && z <= n; Fit(p) != want {
				t.Fatalf("%d operations, to %d: Fit is not %v", n, z, want)
			}
		}
	}
}
