package item

import (
	"math"
	"testing"

	"bramble/api"
	"bramble/sample"
)

// farOff is numbers that no item has.
func farOff() []int {
	return []int{math.MinInt, math.MinInt + 1, math.MinInt32, -65536, -256, 256, 65536, math.MaxInt32, math.MaxInt - 1, math.MaxInt}
}

// holdItem fails where Fit or Next tell something else of an item; sym -1: there is no Next.
func holdItem(t *testing.T, f api.Flat, x api.Lr, fit bool, sym int) {
	t.Helper()
	if Fit(f, x) != fit {
		t.Errorf("%v: fit is %v", x, !fit)
	}
	got, ok := Next(f, x)
	if want := max(sym, 0); got != want || ok != (sym >= 0) {
		t.Errorf("%v: Next is %d, %v, not %d, %v", x, got, ok, want, sym >= 0)
	}
}

// holdBox fails where something else is told of any item near those of a plain grammar, of which the right sides are given, the whole's first.
func holdBox(t *testing.T, f api.Flat, rights [][]int) {
	t.Helper()
	for prod := -4; prod < len(rights)+3; prod++ {
		for dot := -3; dot < 9; dot++ {
			for look := -3; look < len(f.Terms)+4; look++ {
				fit, sym := false, -1
				if prod >= -1 && prod < len(rights)-1 && dot >= 0 && look >= 0 && look <= len(f.Terms) {
					right := rights[prod+1]
					fit = dot <= len(right)
					if dot < len(right) {
						sym = right[dot]
					}
				}
				holdItem(t, f, api.Lr{Prod: prod, Dot: dot, Look: look}, fit, sym)
			}
		}
	}
	for _, n := range farOff() {
		for m := -1; m < 2; m++ {
			holdItem(t, f, api.Lr{Prod: n, Dot: 0, Look: max(m, 0)}, false, -1)
			holdItem(t, f, api.Lr{Prod: m, Dot: n, Look: 0}, false, -1)
			holdItem(t, f, api.Lr{Prod: m, Dot: 0, Look: n}, false, -1)
			holdItem(t, f, api.Lr{Prod: m, Dot: n, Look: n}, false, -1)
			holdItem(t, f, api.Lr{Prod: n, Dot: n, Look: n}, false, -1)
		}
	}
}

// P11.1.
func TestFitAndNext(t *testing.T) {
	holdBox(t, plain(t, "x y", "a b c", "a -> b x c; b ->; b -> y; c -> a a a a"), [][]int{{2}, {3, 0, 4}, {}, {1}, {2, 2, 2, 2}})
	holdBox(t, plain(t, "x y z", "a", "a -> a; a -> x a z y y; a -> z"), [][]int{{3}, {3}, {0, 3, 2, 1, 1}, {2}})
	holdBox(t, plain(t, "x", "a b", "b -> x a b"), [][]int{{1}, {0, 1, 2}})
}

// Without terminals the end is 0.
func TestFitAndNextWithoutTerminals(t *testing.T) {
	holdBox(t, plain(t, "", "a b", "a -> b a; b ->"), [][]int{{0}, {1, 0}, {}})
	holdBox(t, plain(t, "", "a", ""), [][]int{{0}})
}

// Without productions there is none but the whole's.
func TestFitAndNextWithoutProductions(t *testing.T) {
	holdBox(t, plain(t, "x y", "a b", ""), [][]int{{2}})
}

func TestFitAndNextOfGreatest(t *testing.T) {
	f := sample.Symbols(599, 1)
	for range 400 {
		f.Prods = append(f.Prods, api.Prod{Left: 599, Right: make([]api.Item, 64)})
	}
	f.Prods[399].Right[63].Sym = 598
	f.Prods[0].Right[63].Sym = 599
	mustFit(t, f)
	for _, c := range []struct {
		x   api.Lr
		fit bool
		sym int
	}{
		{api.Lr{Prod: 399, Dot: 63, Look: 599}, true, 598},
		{api.Lr{Prod: 399, Dot: 64, Look: 599}, true, -1},
		{api.Lr{Prod: 399, Dot: 65, Look: 599}, false, -1},
		{api.Lr{Prod: 399, Dot: 63, Look: 600}, false, -1},
		{api.Lr{Prod: 400, Dot: 63, Look: 599}, false, -1},
		{api.Lr{Prod: 0, Dot: 63, Look: 598}, true, 599},
		{api.Lr{Prod: 0, Dot: 62, Look: 0}, true, 0},
		{api.Lr{Prod: -1, Dot: 0, Look: 599}, true, 599},
		{api.Lr{Prod: -1, Dot: 1, Look: 599}, true, -1},
		{api.Lr{Prod: -1, Dot: 1, Look: 600}, false, -1},
		{api.Lr{Prod: -1, Dot: 2, Look: 599}, false, -1},
		{api.Lr{Prod: -1, Dot: 64, Look: 599}, false, -1},
	} {
		holdItem(t, f, c.x, c.fit, c.sym)
	}
}
