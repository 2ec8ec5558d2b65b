package vm

import (
	"math"
	"slices"
	"strconv"
	"strings"
	"testing"

	"bramble/api"
)

// The greatest and the least number.
const (
	most  = math.MaxInt
	least = math.MinInt
)

// ins is an operation.
func ins(op, x, y, z int) api.Ins {
	return api.Ins{Op: op, X: x, Y: y, Z: z}
}

// read is a program that is read, which must be one.
func read(t *testing.T, s string) []api.Ins {
	t.Helper()
	p, f := Parse(s)
	if f != (api.Fault{}) {
		t.Fatalf("Parse of %q: %v", s, f)
	}
	return p
}

// repeated is an operation many times, as a text.
func repeated(s string, n int) string {
	return strings.Join(slices.Repeat([]string{s}, n), "; ")
}

// plain is all fit operations of a program of n, with few bytes and states.
func plain(n int) []api.Ins {
	var l []api.Ins
	for z := range n + 1 {
		for _, x := range [][2]int{{'a', 'a'}, {'a', 'b'}, {'c', 'c'}, {0, 255}} {
			l = append(l, ins(api.InChar, x[0], x[1], z))
		}
		for _, x := range []int{0, 1, 255} {
			l = append(l, ins(api.InIs, x, 0, z))
		}
		l = append(l, ins(api.InGoto, 0, 0, z))
	}
	for _, x := range []int{0, 1, 255} {
		l = append(l, ins(api.InSet, x, 0, 0), ins(api.InAdd, x, 0, 0))
	}
	return append(l, ins(api.InYes, 0, 0, 0), ins(api.InNo, 0, 0, 0))
}

// programs is all programs of n such operations.
func programs(n int) [][]api.Ins {
	all := [][]api.Ins{nil}
	for range n {
		var l [][]api.Ins
		for _, p := range all {
			for _, x := range plain(n) {
				l = append(l, append(slices.Clone(p), x))
			}
		}
		all = l
	}
	return all
}

// unfit is programs that can't be.
func unfit() map[string][]api.Ins {
	yes := ins(api.InYes, 0, 0, 0)
	l := map[string][]api.Ins{
		"no list":             nil,
		"no operation":        {},
		"65 operations":       slices.Repeat([]api.Ins{yes}, 65),
		"far too many":        slices.Repeat([]api.Ins{yes}, 100000),
		"the zero value":      {{}},
		"behind the kinds":    {ins(api.NumIns, 0, 0, 0)},
		"below the kinds":     {ins(-1, 0, 0, 0)},
		"the greatest kind":   {ins(most, 0, 0, 0)},
		"the least kind":      {ins(least, 0, 0, 0)},
		"the last is none":    {yes, yes, {}},
		"the first is none":   {{}, yes, yes},
		"one within is none":  {yes, ins(9, 0, 0, 0), yes},
		"char, X above Y":     {ins(api.InChar, 98, 97, 0)},
		"char, X far above Y": {ins(api.InChar, 255, 0, 0)},
		"char, only X above":  {ins(api.InChar, 256, 255, 0)},
		"char, both above":    {ins(api.InChar, 256, 256, 0)},
		"char, both below":    {ins(api.InChar, -1, -1, 0)},
		"char, all there are": {ins(api.InChar, least, most, 0)},
	}
	for _, n := range []int{-1, 256, most, least, -256} {
		l["char, X "+strconv.Itoa(n)] = []api.Ins{ins(api.InChar, n, 255, 0)}
		l["char, Y "+strconv.Itoa(n)] = []api.Ins{ins(api.InChar, 0, n, 0)}
		l["is, X "+strconv.Itoa(n)] = []api.Ins{ins(api.InIs, n, 0, 0)}
		l["set, X "+strconv.Itoa(n)] = []api.Ins{ins(api.InSet, n, 0, 0)}
		l["add, X "+strconv.Itoa(n)] = []api.Ins{ins(api.InAdd, n, 0, 0)}
	}
	for _, n := range []int{-1, 3, 4, most, least} {
		l["char, Z "+strconv.Itoa(n)] = []api.Ins{yes, ins(api.InChar, 0, 0, n)}
		l["is, Z "+strconv.Itoa(n)] = []api.Ins{yes, ins(api.InIs, 0, 0, n)}
		l["goto, Z "+strconv.Itoa(n)] = []api.Ins{yes, ins(api.InGoto, 0, 0, n)}
	}
	for _, n := range []int{-1, 1, most, least} {
		l["is, Y "+strconv.Itoa(n)] = []api.Ins{ins(api.InIs, 1, n, 0)}
		l["set, Y "+strconv.Itoa(n)] = []api.Ins{ins(api.InSet, 1, n, 0)}
		l["set, Z "+strconv.Itoa(n)] = []api.Ins{ins(api.InSet, 1, 0, n)}
		l["add, Y "+strconv.Itoa(n)] = []api.Ins{ins(api.InAdd, 1, n, 0)}
		l["add, Z "+strconv.Itoa(n)] = []api.Ins{ins(api.InAdd, 1, 0, n)}
		l["goto, X "+strconv.Itoa(n)] = []api.Ins{ins(api.InGoto, n, 0, 0)}
		l["goto, Y "+strconv.Itoa(n)] = []api.Ins{ins(api.InGoto, 0, n, 0)}
		for _, op := range []int{api.InYes, api.InNo} {
			name := map[int]string{api.InYes: "yes", api.InNo: "no"}[op]
			l[name+", X "+strconv.Itoa(n)] = []api.Ins{ins(op, n, 0, 0)}
			l[name+", Y "+strconv.Itoa(n)] = []api.Ins{ins(op, 0, n, 0)}
			l[name+", Z "+strconv.Itoa(n)] = []api.Ins{ins(op, 0, 0, n)}
		}
	}
	return l
}

// TestArgumentsStay: lists that are handed in are as they were, and so is what stands behind them.
func TestArgumentsStay(t *testing.T) {
	for _, l := range [][]api.Ins{
		read(t, "char 97 97 3; goto 0; no; yes"),
		read(t, "set 5; add 255; is 4 0; char 0 255 5; yes"),
		slices.Repeat([]api.Ins{ins(9, 9, 9, 9)}, 5),
	} {
		room := append(slices.Clone(l), ins(api.InNo, 1, 2, 3), ins(api.InYes, 0, 0, 0))
		was := slices.Clone(room)
		p := room[:len(l)]
		Fit(p)
		Run(p, "aab", 0, 7)
		Print(p)
		if !slices.Equal(room, was) {
			t.Errorf("%v was changed to %v", was, room)
		}
	}
}

// TestAnswersShareNothing: what one call tells does not change by what is done to what another one has told.
func TestAnswersShareNothing(t *testing.T) {
	const s = "char 97 97 3; goto 0; no; yes"
	a, b := read(t, s), read(t, s)
	for i := range a {
		a[i] = ins(api.InSet, 1, 0, 0)
	}
	a = append(a, ins(api.InNo, 0, 0, 0))
	if Print(b) != s || Print(read(t, s)) != s || len(a) != 5 {
		t.Error("two programs share memory")
	}
}
