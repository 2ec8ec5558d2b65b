package chart

import (
	"math"
	"testing"

	"bramble/api"
	"bramble/sample"
)

// counts is productions by what they count: 0 and 1 nothing, 2 one, 3 two, 4 one less than nothing.
func counts() api.Flat {
	f := sample.FlatOf("x", "a", "a ->; a -> x; a -> a a; a -> a; a -> x a")
	f.Prods[2].Prec, f.Prods[3].Prec, f.Prods[4].Prec = 1, 2, -1
	return f
}

// P15.1: which of two ways is ahead: 1: the first one, 2: the second one, 0: none.
func TestAhead(t *testing.T) {
	f := counts()
	w := func(prod, to int, kids ...api.Der) api.Der { return by(prod, 1, 0, to, kids...) }
	for _, c := range []struct {
		what string
		a, b api.Der
		want int
	}{
		{"a way and itself", w(0, 1), w(0, 1), 0},
		{"a way and itself, with kids", w(2, 2, w(1, 1), w(1, 2)), w(2, 2, w(1, 1), w(1, 2)), 0},
		{"one counts more", w(2, 1), w(0, 1), 1},
		{"one counts more, though its Prod is greater", w(3, 1), w(2, 1), 1},
		{"one counts less than nothing", w(4, 1), w(1, 1), 2},
		{"one counts more by a kid", w(0, 1, w(2, 1)), w(0, 1, w(1, 1)), 1},
		{"one counts more by its last kid, the other's first ends later", w(0, 2, w(0, 1), w(2, 2)), w(0, 2, w(0, 2), w(0, 2)), 1},
		{"one counts more by a kid deep in it, the other's Prod is less", w(1, 1, w(1, 1, w(1, 1, w(3, 1)))), w(0, 1), 1},
		{"one counts more by more kids", w(0, 1, w(2, 1), w(2, 1)), w(0, 1, w(2, 1)), 1},
		{"one counts less by more kids", w(0, 1, w(4, 1), w(4, 1)), w(0, 1, w(4, 1)), 2},
		{"count alike, the less Prod", w(0, 1), w(1, 1), 1},
		{"count alike by other parts, the less Prod", w(2, 1, w(2, 1)), w(3, 1), 1},
		{"count alike by other parts, the less Prod within", w(0, 1, w(2, 1, w(2, 1))), w(0, 1, w(3, 1)), 1},
		{"count alike, a Prod below 0", w(-1, 1), w(0, 1), 1},
		{"count alike, both below 0", w(-2, 1), w(-1, 1), 1},
		{"count alike, one behind the last", w(99, 1), w(1, 1), 2},
		{"count alike, both far off", w(math.MinInt, 1), w(math.MaxInt, 1), 1},
		{"the less Prod, whatever the kids", w(0, 2, w(1, 1)), w(1, 2, w(0, 2)), 1},
		{"a first kid that ends later", w(0, 2, w(0, 2)), w(0, 2, w(0, 1)), 1},
		{"a first kid that ends later, though its Prod is greater", w(0, 2, w(1, 2)), w(0, 2, w(0, 1)), 1},
		{"a first kid that ends later and counts less", w(0, 2, w(4, 2), w(2, 2)), w(0, 2, w(0, 1), w(0, 2)), 1},
		{"a later kid that ends later", w(0, 2, w(0, 1), w(0, 2)), w(0, 2, w(0, 1), w(0, 1)), 1},
		{"kids that differ in To first, and are ahead later", w(0, 3, w(0, 2), w(1, 3)), w(0, 3, w(0, 1), w(0, 3)), 1},
		{"kids that are ahead first, and differ in To later", w(0, 3, w(0, 1), w(0, 2)), w(0, 3, w(1, 1), w(0, 3)), 1},
		{"kids that count more first, and end later", w(0, 3, w(2, 1), w(0, 2)), w(0, 3, w(0, 1), w(2, 3)), 1},
		{"the kid of a kid ends later", w(0, 3, w(0, 3, w(0, 2))), w(0, 3, w(0, 3, w(0, 1))), 1},
		{"the kid of a first kid, then another kid's end", w(0, 3, w(0, 3, w(0, 2)), w(0, 1)), w(0, 3, w(0, 3, w(0, 1)), w(0, 3)), 1},
		{"ends of the ways themselves play no part", w(0, 7), w(0, 1), 0},
		{"ends of the ways themselves, kids that differ", w(0, 1, w(0, 2)), w(0, 7, w(0, 1)), 1},
		{"Kids not as many, those that both have alike", w(0, 2, w(0, 1), w(0, 2)), w(0, 2, w(0, 1)), 0},
		{"Kids not as many, none and some", w(0, 2), w(0, 2, w(0, 1)), 0},
		{"Kids not as many, those that both have differ", w(0, 2, w(0, 1)), w(0, 2, w(1, 1), w(0, 2), w(0, 2)), 1},
		{"Kids not as many, a kid that only one has counts more", w(0, 2, w(0, 1)), w(0, 2, w(0, 1), w(2, 2)), 2},
		{"Kids of a first kid not as many, those that both have differ", w(0, 2, w(0, 1, w(1, 1)), w(0, 1)), w(0, 2, w(0, 1, w(0, 1), w(0, 1)), w(0, 2)), 2},
		{"symbols play no part", by(0, 0, 0, 1), by(0, 1, 0, 1), 0},
		{"symbols play no part, kids that differ", by(0, 0, 0, 1, w(0, 1)), by(0, 1, 0, 1, w(0, 2)), 2},
		{"From plays no part", by(0, 1, 0, 1), by(0, 1, 1, 1), 0},
		{"Junk plays no part", api.Der{Prod: 0, Junk: 1}, api.Der{Prod: 0, Junk: 2}, 0},
		{"first kids that differ in Junk, then one that ends later", api.Der{Kids: []api.Der{{Prod: -1, To: 1}, {To: 1}}}, api.Der{Kids: []api.Der{{Prod: -1, To: 1, Junk: 1}, {}}}, 0},
		{"an empty list is none, then a kid that ends later", w(0, 2, w(0, 1, []api.Der{}...), w(0, 2)), w(0, 2, w(0, 1), w(0, 1)), 1},
		{"terminals", leaf(0, 0), leaf(0, 0), 0},
		{"a terminal and a way", leaf(0, 0), w(0, 1), 1},
		{"nothing and nothing", api.Der{}, api.Der{}, 0},
		{"ends far off", w(0, 2, w(0, math.MinInt)), w(0, 2, w(0, math.MaxInt)), 2},
	} {
		if Ahead(f, c.a, c.b) != (c.want == 1) || Ahead(f, c.b, c.a) != (c.want == 2) {
			t.Errorf("%s: %v, and the other way round %v", c.what, Ahead(f, c.a, c.b), Ahead(f, c.b, c.a))
		}
		if aheadByWords(f, c.a, c.b) != (c.want == 1) || aheadByWords(f, c.b, c.a) != (c.want == 2) {
			t.Errorf("%s: by the words %v, and the other way round %v", c.what, aheadByWords(f, c.a, c.b), aheadByWords(f, c.b, c.a))
		}
	}
}

// unlike is two ways each that differ in what the order does not look at, so that neither is ahead, by what that is.
func unlike() map[string][2]api.Der {
	d := by(0, 1, 0, 1, by(0, 1, 0, 1))
	symbol, from, junk, more, fewer := d, d, d, d, d
	symbol.Sym, from.From, junk.Junk = 0, 1, 1
	more.Kids = []api.Der{d.Kids[0], d.Kids[0]}
	fewer.Kids = nil
	return map[string][2]api.Der{
		"the symbol":          {d, symbol},
		"From":                {d, from},
		"Junk":                {d, junk},
		"a kid more":          {d, more},
		"a kid fewer":         {d, fewer},
		"the symbol and Junk": {symbol, junk},
	}
}

// P15.1: kids that differ decide, though neither of them is ahead: those behind them play no part, but for what they count.
func TestAheadByFirstKidsThatDiffer(t *testing.T) {
	f := counts()
	w := func(prod, to int, kids ...api.Der) api.Der { return by(prod, 1, 0, to, kids...) }
	behind := map[string][2]api.Der{
		"ends later":               {w(0, 2), w(0, 1)},
		"has the less Prod":        {w(0, 2), w(1, 2)},
		"has a kid that is ahead":  {w(0, 2, w(0, 2)), w(0, 2, w(0, 1))},
		"ends later, counts alike": {w(2, 2), w(2, 1)},
	}
	for what, pair := range unlike() {
		for deep := range 4 {
			for _, ahead := range []int{0, 1} {
				one, two := pair[ahead], pair[1-ahead]
				for why, last := range behind {
					a, b := w(0, 3, one, last[0]), w(0, 3, two, last[1])
					if Ahead(f, a, b) || Ahead(f, b, a) {
						t.Errorf("kids %d deep differ in %s: one is ahead by a kid behind them that %s", deep, what, why)
					}
					a, b = w(0, 3, w(0, 1), one, one, last[0]), w(0, 3, w(0, 1), two, one, last[1])
					if Ahead(f, a, b) || Ahead(f, b, a) {
						t.Errorf("second kids %d deep differ in %s: one is ahead by a kid behind them that %s", deep, what, why)
					}
					a, b = w(0, 3, one, last[0]), w(0, 3, one, last[1])
					if !Ahead(f, a, b) || Ahead(f, b, a) {
						t.Errorf("kids that are alike, %s of one: none is ahead by a kid behind them that %s", what, why)
					}
					a, b = w(0, 3, last[0], one), w(0, 3, last[1], two)
					if !Ahead(f, a, b) || Ahead(f, b, a) {
						t.Errorf("kids %d deep differ in %s: none is ahead by a kid ahead of them that %s", deep, what, why)
					}
				}
				a, b := w(0, 3, one, w(2, 1)), w(0, 3, two, w(0, 2))
				if !Ahead(f, a, b) || Ahead(f, b, a) {
					t.Errorf("kids %d deep differ in %s: the one that counts more is not ahead", deep, what)
				}
			}
			for i, d := range pair {
				pair[i] = w(0, 1, w(0, 1), d, w(0, 1))
			}
		}
	}
}

// P15.1: any two ways.
func TestDrawnAhead(t *testing.T) {
	f := counts()
	seed := sample.Seed(152)
	told := make([]int, 3)
	for range 20000 {
		a := sample.AnyWay(&seed, 1+seed.Below(8))
		b := sample.AnyWay(&seed, 1+seed.Below(8))
		if seed.Below(4) > 0 { // else they hardly ever have kids that are alike
			b = sample.OtherWay(&seed, a)
		}
		if Prec(f, a) != precByWords(f, a) || Prec(f, b) != precByWords(f, b) {
			t.Fatalf("%v, %v: Prec: %d, %d", a, b, Prec(f, a), Prec(f, b))
		}
		first, second := Ahead(f, a, b), Ahead(f, b, a)
		if first != aheadByWords(f, a, b) || second != aheadByWords(f, b, a) || first && second || Ahead(f, a, a) {
			t.Fatalf("%v, %v: Ahead: %v, %v", a, b, first, second)
		}
		switch {
		case first:
			told[1]++
		case second:
			told[2]++
		default:
			told[0]++
		}
	}
	if told[0] < 500 || told[1] < 500 || told[2] < 500 {
		t.Errorf("%v of them", told)
	}
}
