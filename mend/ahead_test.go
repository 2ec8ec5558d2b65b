package mend

import (
	"math"
	"testing"

	"bramble/api"
	"bramble/sample"
)

// counts is productions by what they count: 0 and 1 nothing, 2 one, 3 two, 4 one less than nothing.
func counts() api.Flat {
	return sample.FlatOf("x", "a", "a ->; a -> x; a -> a a %1; a -> a %2; a -> x a %-1")
}

// P18.1: which of two wholes is ahead: 1: the first one, 2: the second one, 0: none.
func TestAhead(t *testing.T) {
	f := counts()
	w := func(prod, to int, kids ...api.Der) api.Der { return by(prod, 1, 0, to, kids...) }
	n := func(prod, to int, kids ...api.Der) api.Mended { return whole(0, w(prod, to, kids...)) }
	x := func(to int) api.Der { return token(0, to-1, 0) }
	junk := func(to int) api.Der { return token(0, to-2, 1) }
	miss := gone(0, 1)
	for _, c := range []struct {
		what string
		a, b api.Mended
		want int
	}{
		{"a whole and itself", n(2, 1, x(1), miss), n(2, 1, x(1), miss), 0},
		{"one costs less", n(1, 1, x(1)), n(1, 1, miss), 1},
		{"one costs less, the other counts more", n(0, 1), n(3, 1, miss), 1},
		{"one costs less by 1, the other counts more", n(0, 1, junk(2)), n(3, 1, miss), 1},
		{"one costs less, its Rest is more", whole(1, w(0, 1)), n(0, 1, miss), 1},
		{"one costs less, its Rest is less", n(0, 1, miss), whole(2, w(0, 1)), 1},
		{"one costs less by more kids", n(0, 1, miss), n(0, 1, miss, miss), 1},
		{"one costs less by a kid of a kid", n(0, 1, w(0, 1, x(1)), miss), n(0, 1, w(0, 1, junk(1)), miss), 1},
		{"one costs less, the other's first kid ends later", n(0, 1, w(0, 1)), n(0, 1, w(0, 2, miss)), 1},
		{"one costs less by Junk below 0", n(0, 1, token(0, 0, -1)), n(0, 1, x(1)), 1},
		{"one costs less by Rest below 0", whole(-1, w(0, 1)), n(0, 1), 1},
		{"cost the same, one counts more", n(2, 1, miss), n(0, 1, miss), 1},
		{"cost the same by unlike parts, one counts more", n(2, 1, miss, miss), whole(3, w(0, 1)), 1},
		{"cost the same by unlike parts, one counts more, its Rest is more", whole(3, w(2, 1)), n(0, 1, miss, miss), 1},
		{"cost the same, one counts less than nothing", n(4, 1, miss), n(1, 1, miss), 2},
		{"cost the same, one counts more by a kid", n(0, 1, miss, w(3, 1)), n(0, 1, w(2, 1), miss), 1},
		{"count the same, the Rest is less", n(0, 1, junk(2)), whole(1, w(0, 1)), 1},
		{"count the same, the Rest is less, though its Prod is greater", n(1, 1, junk(2)), whole(1, w(0, 1)), 1},
		{"count the same, the Rest is less, though the other's kid ends later", n(1, 1, w(0, 1), junk(2)), whole(1, w(1, 1, w(0, 2), x(2))), 1},
		{"the Rest is the same, the less Prod", n(0, 1, miss), n(1, 1, miss), 1},
		{"the Rest is the same, the less Prod, whatever the kids", whole(4, w(0, 2, x(1))), whole(4, w(1, 2, x(2))), 1},
		{"Prods below 0", whole(0, token(0, 0, 1)), whole(1, w(0, 1)), 1},
		{"one is missing, the other is passed over", n(0, 1, gone(0, 0), miss), n(0, 1, token(0, 0, 3)), 2},
		{"a first kid that ends later", n(0, 2, x(2), miss), n(0, 2, x(1), miss), 1},
		{"a first kid that ends later, and is missing", n(0, 2, gone(0, 2), x(2)), n(0, 2, x(1), miss), 1},
		{"a first kid that ends later, and costs more", n(0, 3, w(0, 3, miss), x(3)), n(0, 3, w(0, 2), miss), 1},
		{"a first kid that ends later, and counts less", n(0, 3, w(4, 3), w(2, 3)), n(0, 3, w(0, 2), w(0, 3)), 1},
		{"a second kid that ends later", n(0, 2, miss, x(2)), n(0, 2, miss, x(1)), 1},
		{"kids that end alike, the first costs less", n(0, 2, w(0, 1, x(1)), w(0, 2, miss)), n(0, 2, w(0, 1, miss), w(0, 2, x(2))), 1},
		{"kids that end alike, the first costs less, and counts less", n(0, 2, w(0, 1, x(1)), w(2, 2, miss)), n(0, 2, w(2, 1, miss), w(0, 2, x(2))), 1},
		{"kids that end alike, the first costs less by Junk", n(0, 2, x(1), junk(2)), n(0, 2, api.Der{Prod: -1, To: 1, Junk: 1}, x(2)), 1},
		{"kids that end alike, the first counts more", n(0, 2, w(2, 1, miss), w(0, 2)), n(0, 2, w(0, 1, miss), w(2, 2)), 1},
		{"kids that end alike, the first has the less Prod", n(0, 2, w(0, 1), w(1, 2)), n(0, 2, w(1, 1), w(0, 2)), 1},
		{"kids that end alike, one is missing, and one is of a production", n(0, 1, miss, w(0, 1)), n(0, 1, w(0, 1), miss), 2},
		{"kids of kids: the first that differ end later", n(0, 3, w(0, 3, w(0, 2), miss)), n(0, 3, w(0, 3, w(0, 1), miss)), 1},
		{"kids of kids: the first that differ cost less", n(0, 3, w(0, 3, w(0, 2, x(1)), miss)), n(0, 3, w(0, 3, w(0, 2, miss), x(2))), 1},
		{"kids of a first kid, then another kid's end", n(0, 3, w(0, 3, w(0, 2)), w(0, 1)), n(0, 3, w(0, 3, w(0, 1)), w(0, 3)), 1},
		{"Roots of unlike symbols", whole(0, by(0, 0, 0, 1)), whole(0, by(0, 1, 0, 1)), 0},
		{"Roots of unlike symbols, kids that differ", whole(0, by(0, 0, 0, 1, x(1))), whole(0, by(0, 7, 0, 1, x(2))), 2},
		{"Roots that begin elsewhere", whole(0, by(0, 1, 0, 1)), whole(0, by(0, 1, 1, 1)), 0},
		{"Roots that end elsewhere", n(0, 7), n(0, 1), 0},
		{"Roots that end elsewhere, kids that differ", n(0, 1, x(2)), n(0, 7, x(1)), 1},
		{"Roots that end elsewhere, one costs less", n(0, 1, x(2)), n(0, 7, miss), 1},
		{"Kids not as many, those that both have alike", n(0, 2, x(1), x(2)), n(0, 2, x(1)), 0},
		{"Kids not as many, those that both have differ", n(0, 2, x(1)), n(0, 2, x(2), x(2)), 2},
		{"Kids not as many, one that only one has costs", n(0, 2, x(2), miss), n(0, 2, x(1)), 2},
		{"Kids not as many, one that only one has counts", n(0, 2, x(1), w(2, 1)), n(0, 2, x(2)), 1},
		{"Kids not as many, one deep in one that only one has costs", n(0, 2, x(2), w(0, 2, w(0, 2, miss))), n(0, 2, x(1)), 2},
		{"kids that differ in their symbols, then one that ends later", n(0, 2, x(1), x(2)), n(0, 2, token(5, 0, 0), x(1)), 0},
		{"kids that differ in From, then one that ends later", n(0, 2, by(0, 1, 0, 1), x(2)), n(0, 2, by(0, 1, 1, 1), x(1)), 0},
		{"kids with kids not as many, then one that ends later", n(0, 2, w(0, 1, x(1)), x(2)), n(0, 2, w(0, 1), x(1)), 0},
		{"an empty list is none, then a kid that ends later", n(0, 2, w(0, 1, []api.Der{}...), x(2)), n(0, 2, w(0, 1), x(1)), 1},
		{"nothing and nothing", api.Mended{}, api.Mended{}, 0},
		{"ends far off", n(0, 2, w(0, math.MinInt)), n(0, 2, w(0, math.MaxInt)), 2},
		{"Rests far off, that cost the same", whole(math.MinInt, w(0, 1)), n(0, 1), 1},
	} {
		first, second := Ahead(f, c.a, c.b), Ahead(f, c.b, c.a)
		if first != (c.want == 1) || second != (c.want == 2) {
			t.Errorf("%s: %v, and the other way round %v", c.what, first, second)
		}
		first, second = wholeAheadByWords(f, c.a, c.b), wholeAheadByWords(f, c.b, c.a)
		if first != (c.want == 1) || second != (c.want == 2) {
			t.Errorf("%s: by the words %v, and the other way round %v", c.what, first, second)
		}
	}
}

// P18.1: any two wholes.
func TestDrawnAhead(t *testing.T) {
	f := counts()
	seed := sample.Seed(187)
	told := make([]int, 3)
	for range 20000 {
		a := whole(seed.Below(4)-1, sample.AnyWay(&seed, 1+seed.Below(8)))
		b := whole(seed.Below(4)-1, sample.AnyWay(&seed, 1+seed.Below(8)))
		if seed.Below(4) > 0 { // else they hardly ever have kids that are alike
			b = whole(a.Rest+max(0, seed.Below(6)-4), sample.OtherWay(&seed, a.Root))
		}
		first, second := Ahead(f, a, b), Ahead(f, b, a)
		if first != wholeAheadByWords(f, a, b) || second != wholeAheadByWords(f, b, a) || first && second || Ahead(f, a, a) {
			t.Fatalf("%v, %v: Ahead: %v, %v", a, b, first, second)
		}
		switch {
		case first:
			told[1]++
		case second:
			told[2]++
		default:
			told[0]++
		}
	}
	if told[0] < 500 || told[1] < 500 || told[2] < 500 {
		t.Errorf("%v of them", told)
	}
}
