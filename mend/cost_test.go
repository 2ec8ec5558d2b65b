package mend

import (
	"math"
	"slices"
	"testing"

	"bramble/api"
	"bramble/sample"
)

// P18.1: what a whole costs, and its text, of those that are not fit, too.
func TestCostAndText(t *testing.T) {
	junk := func(d api.Der, many int) api.Der {
		d.Junk = many
		return d
	}
	for _, c := range []struct {
		what string
		m    api.Mended
		cost int
		text []int
	}{
		{"nothing", whole(0, by(1, 3, 0, 0)), 0, nil},
		{"a token", whole(0, by(2, 3, 0, 1, token(1, 0, 0))), 0, []int{1}},
		{"a token behind others", whole(0, by(2, 3, 0, 1, token(1, 0, 4))), 8, []int{1}},
		{"a missing one", whole(0, by(2, 3, 0, 0, gone(1, 0))), 3, []int{1}},
		{"a Rest", whole(5, by(1, 3, 0, 0)), 10, nil},
		{"all of these", whole(2, by(0, 2, 0, 3, gone(0, 0), by(2, 3, 0, 2, token(1, 0, 1)), gone(1, 2))), 12, []int{0, 1, 1}},
		{"from the left, as deep as they lie", whole(0, by(0, 2, 0, 0, by(0, 2, 0, 0, gone(4, 0), by(0, 2, 0, 0, gone(3, 0)), gone(2, 0)), gone(1, 0))), 12, []int{4, 3, 2, 1}},
		{"the zero whole", api.Mended{}, 0, nil},
		{"a Root that is a token", whole(0, token(7, 0, 0)), 0, []int{7}},
		{"a Root that is missing", whole(1, gone(7, 0)), 5, []int{7}},
		{"a Rest below 0", whole(-2, gone(0, 0)), -1, []int{0}},
		{"Junk below 0", whole(0, token(0, 0, -3)), -6, []int{0}},
		{"Junk beside Prod -2", whole(0, junk(gone(0, 0), 2)), 7, []int{0}},
		{"Junk of one of Nons", whole(0, junk(by(0, 2, 0, 0, gone(1, 0)), 3)), 9, []int{1}},
		{"Prods below -2", whole(0, by(0, 2, 0, 0, by(-3, 5, 0, 0), by(math.MinInt, 6, 0, 0))), 0, []int{5, 6}},
		{"Kids of a token", whole(0, by(-1, 4, 0, 0, gone(1, 0), token(2, 0, 1))), 5, []int{4, 1, 2}},
		{"Kids of a missing one", whole(0, by(-2, 4, 0, 0, gone(1, 0), by(-3, 2, 0, 0, gone(3, 0)))), 9, []int{4, 1, 2, 3}},
		{"symbols that there are not", whole(0, by(99, -4, 0, 0, gone(-1, 0), gone(math.MaxInt, 0))), 6, []int{-1, math.MaxInt}},
		{"places that there are not", whole(0, by(0, 2, -9, 9, api.Der{Sym: 1, Prod: -2, From: 5, To: 3})), 3, []int{1}},
		{"productions that there are not", whole(1, by(math.MaxInt, 2, 0, 0, gone(1, 0))), 5, []int{1}},
	} {
		if got := Cost(c.m); got != c.cost || 2*c.m.Rest+costByWords(c.m.Root) != c.cost {
			t.Errorf("%s: costs %d", c.what, got)
		}
		if got := Text(c.m); !slices.Equal(got, c.text) || (got == nil) != (c.text == nil) || !slices.Equal(textByWords(c.m.Root), c.text) {
			t.Errorf("%s: %v", c.what, got)
		}
	}
}

// P18.1: drawn wholes.
func TestDrawnCosts(t *testing.T) {
	seed := sample.Seed(186)
	for range 5000 {
		m := whole(seed.Below(5)-2, sample.AnyWay(&seed, 1+seed.Below(9)))
		if got := Cost(m); got != 2*m.Rest+costByWords(m.Root) {
			t.Fatalf("%v costs %d", m, got)
		}
		if got := Text(m); !slices.Equal(got, textByWords(m.Root)) {
			t.Fatalf("%v: %v", m, got)
		}
	}
}
