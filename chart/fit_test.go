package chart

import (
	"math"
	"testing"

	"bramble/api"
	"bramble/sample"
)

// leaf is a way of a terminal.
func leaf(sym, from int) api.Der {
	return api.Der{Sym: sym, Prod: -1, From: from, To: from + 1}
}

// by is a way by a production, of some tokens.
func by(prod, sym, from, to int, kids ...api.Der) api.Der {
	return api.Der{Sym: sym, Prod: prod, From: from, To: to, Kids: kids}
}

// deeper hands on a way, and ways that have it deep within, from the same token on.
func deeper(d api.Der) []api.Der {
	all := []api.Der{d}
	for range 3 {
		last := all[len(all)-1]
		all = append(all, by(0, 2, d.From, d.To, last, by(2, 3, d.To, d.To)))
	}
	return all
}

// nested is a grammar in which a way of a can lie within another one, as deep as may be: b is empty, or a y. (It is round, as none is that flat.Make makes: Fit is asked all the same.)
func nested() api.Flat {
	return sample.FlatOf("x y", "a b", "a -> a b; a -> x y; b ->; b -> y; a ->; a -> x a y")
}

// P15.1: what a way must be, at just its edges, alone and within others.
func TestFit(t *testing.T) {
	f := nested()
	l := []int{0, 1, 0, 1, 0, 7, 2, -1}
	xy := by(1, 2, 0, 2, leaf(0, 0), leaf(1, 1))
	with := func(change func(d *api.Der)) api.Der {
		d := sample.RoomyWay(xy)
		change(&d)
		return d
	}
	for _, c := range []struct {
		what string
		d    api.Der
		want bool
	}{
		{"a way of two terminals", xy, true},
		{"one that begins later", by(1, 2, 2, 4, leaf(0, 2), leaf(1, 3)), true},
		{"nothing", by(4, 2, 0, 0), true},
		{"nothing, in the middle", by(4, 2, 5, 5), true},
		{"nothing, at the end", by(4, 2, 8, 8), true},
		{"a list of none", by(4, 2, 8, 8, []api.Der{}...), true},
		{"nothing, of one token", by(4, 2, 0, 1), false},
		{"nothing, that goes back", by(4, 2, 1, 0), false},
		{"a production of another symbol", by(2, 2, 0, 0), false},
		{"a production of another symbol, with kids", by(3, 2, 1, 2, leaf(1, 1)), false},
		{"another symbol's way", by(1, 3, 0, 2, leaf(0, 0), leaf(1, 1)), false},
		{"-1 at one of Nons", with(func(d *api.Der) { d.Prod = -1 }), false},
		{"-1 at one of Nons, without kids", by(-1, 2, 0, 0), false},
		{"-1 at one of Nons, that stands there by its number", by(-1, 2, 6, 7), false},
		{"-2 at one of Nons", by(-2, 2, 0, 0), false},
		{"a Prod behind the last one", with(func(d *api.Der) { d.Prod = 6 }), false},
		{"the greatest Prod", with(func(d *api.Der) { d.Prod = math.MaxInt }), false},
		{"the least Prod", with(func(d *api.Der) { d.Prod = math.MinInt }), false},
		{"a symbol behind the last one", with(func(d *api.Der) { d.Sym = 4 }), false},
		{"the least symbol", with(func(d *api.Der) { d.Sym = math.MinInt }), false},
		{"the greatest symbol", with(func(d *api.Der) { d.Sym = math.MaxInt }), false},
		{"Junk", with(func(d *api.Der) { d.Junk = 1 }), false},
		{"Junk below 0", with(func(d *api.Der) { d.Junk = -1 }), false},
		{"To too great", with(func(d *api.Der) { d.To = 3 }), false},
		{"To too little", with(func(d *api.Der) { d.To = 1 }), false},
		{"To below From", with(func(d *api.Der) { d.To = -1 }), false},
		{"From too great", with(func(d *api.Der) { d.From = 1 }), false},
		{"From below 0", with(func(d *api.Der) { d.From = -1 }), false},
		{"Kids too few", by(1, 2, 0, 1, leaf(0, 0)), false},
		{"no Kids", by(1, 2, 0, 0), false},
		{"Kids too many", by(1, 2, 0, 3, leaf(0, 0), leaf(1, 1), leaf(0, 2)), false},
		{"a kid of nothing too many", by(1, 2, 0, 2, leaf(0, 0), leaf(1, 1), by(2, 3, 2, 2)), false},
		{"kids in the other order", by(1, 2, 1, 3, leaf(1, 1), leaf(0, 2)), false},
		{"kids of other symbols", by(1, 2, 0, 2, leaf(0, 0), by(3, 3, 1, 2, leaf(1, 1))), false},
		{"the first kid begins later", by(1, 2, 1, 4, leaf(0, 2), leaf(1, 3)), false},
		{"the first kid begins earlier", by(1, 2, 3, 4, leaf(0, 2), leaf(1, 3)), false},
		{"a gap between kids", by(1, 2, 0, 4, leaf(0, 0), leaf(1, 3)), false},
		{"kids over one another", by(5, 2, 0, 4, leaf(0, 0), xy, leaf(1, 3)), false},
		{"a kid in the middle", by(5, 2, 0, 2, leaf(0, 0), by(4, 2, 1, 1), leaf(1, 1)), true},
		{"a kid in the middle that is elsewhere", by(5, 2, 0, 2, leaf(0, 0), by(4, 2, 2, 2), leaf(1, 1)), false},
		{"a terminal", leaf(0, 0), true},
		{"another terminal", leaf(1, 3), true},
		{"a terminal that stands elsewhere", leaf(0, 1), false},
		{"a terminal at a number that is none", leaf(0, 5), false},
		{"a number that is no terminal", leaf(7, 5), false},
		{"one of Nons, that stands there by its number", leaf(2, 6), false},
		{"a number below 0", leaf(-1, 7), false},
		{"a terminal behind the row", leaf(0, 8), false},
		{"a terminal ahead of the row", leaf(0, -1), false},
		{"a terminal far behind the row", leaf(0, math.MaxInt), false},
		{"a terminal far ahead of the row", leaf(0, math.MinInt), false},
		{"a terminal with Junk", api.Der{Sym: 0, Prod: -1, From: 0, To: 1, Junk: 1}, false},
		{"a terminal with Junk ahead of it", api.Der{Sym: 1, Prod: -1, From: 0, To: 2, Junk: 1}, false},
		{"a terminal of no token", api.Der{Sym: 0, Prod: -1, From: 0, To: 0}, false},
		{"a terminal of two tokens", api.Der{Sym: 0, Prod: -1, From: 0, To: 2}, false},
		{"a terminal that goes back", api.Der{Sym: 0, Prod: -1, From: 1, To: 0}, false},
		{"a missing terminal", api.Der{Sym: 0, Prod: -2, From: 0, To: 0}, false},
		{"a terminal with Prod -2", api.Der{Sym: 0, Prod: -2, From: 0, To: 1}, false},
		{"a terminal with a production", by(1, 0, 0, 1), false},
		{"a terminal with Prod 0", by(0, 0, 0, 1), false},
		{"a terminal with Kids", by(-1, 0, 0, 1, leaf(0, 0)), false},
		{"a terminal with Kids of nothing", by(-1, 0, 0, 1, by(2, 3, 0, 0)), false},
		{"a terminal with a list of none", by(-1, 0, 0, 1, []api.Der{}...), true},
	} {
		if got := Fit(f, l, c.d); got != c.want || fitByWords(f, l, c.d) != c.want {
			t.Errorf("%s: %v", c.what, got)
		}
		for deep, d := range deeper(c.d) {
			if want := c.want && (deep == 0 || c.d.Sym == 2); Fit(f, l, d) != want {
				t.Errorf("%s, within %d others: %v", c.what, deep, !want)
			}
		}
	}
}

// P15.1: ways that reach just to a row's end, and over it.
func TestFitOfEnds(t *testing.T) {
	f := nested()
	xy := by(1, 2, 0, 2, leaf(0, 0), leaf(1, 1))
	for n, want := range []bool{false, false, true, true} {
		if l := []int{0, 1, 0}[:n]; Fit(f, l, xy) != want {
			t.Errorf("two terminals of %d: %v", n, !want)
		}
	}
	for at, want := range []bool{true, true, true, false, false} {
		if Fit(f, []int{0, 1}, by(4, 2, at, at)) != want {
			t.Errorf("nothing at %d of 2: %v", at, !want)
		}
	}
	if Fit(f, nil, by(4, 2, -1, -1)) || !Fit(f, nil, by(4, 2, 0, 0)) || Fit(f, nil, by(4, 2, 1, 1)) {
		t.Error("nothing of an empty row")
	}
	if Fit(f, nil, api.Der{}) || Fit(f, []int{0}, api.Der{}) || Fit(f, []int{0, 1}, api.Der{Sym: 2}) {
		t.Error("a way with nothing is fit")
	}
}

// P15.1: one fault in one part of a way, whichever that is, the deepest ones, too.
func TestFitOfOneFault(t *testing.T) {
	f := plain(t, "x y", "a b", "a -> a b; a -> b; b -> x b y; b -> x; b -> y b; b -> x y")
	seed := sample.Seed(15)
	for range 60 {
		was, l, _ := sample.Way(&seed, f, 2, 4)
		if !Fit(f, l, was) || len(l) == 0 {
			t.Fatalf("%v: %v is not fit", l, was)
		}
		for at, part := range sample.PartsOf(&was) {
			for what, spoil := range []func(d *api.Der){
				func(d *api.Der) { d.Sym = (d.Sym + 1) % 4 },
				func(d *api.Der) { d.Sym = -1 },
				func(d *api.Der) { d.Prod = -2 },
				func(d *api.Der) { d.Prod = 99 },
				func(d *api.Der) { d.Prod ^= -1 },
				func(d *api.Der) { d.From++ },
				func(d *api.Der) { d.From-- },
				func(d *api.Der) { d.To++ },
				func(d *api.Der) { d.To-- },
				func(d *api.Der) { d.Junk++ },
				func(d *api.Der) { d.Kids = append(d.Kids, leaf(0, d.To)) },
				func(d *api.Der) { d.Kids = append(d.Kids, by(1, 2, d.To, d.To)) },
				func(d *api.Der) { d.Kids = append([]api.Der{by(1, 2, d.From, d.From)}, d.Kids...) },
				func(d *api.Der) { d.Kids = append(d.Kids, api.Der{})[1:] },
			} {
				if len(part.Kids) == 0 && what == 13 {
					continue
				}
				d := sample.RoomyWay(was)
				if spoil(sample.PartsOf(&d)[at]); Fit(f, l, d) || fitByWords(f, l, d) {
					t.Fatalf("%v: fault %d in part %d: %v is fit", l, what, at, d)
				}
			}
		}
		for at := range l {
			l[at] = 1 - l[at]
			if Fit(f, l, was) {
				t.Fatalf("%v: %v is fit, with another token at %d", l, was, at)
			}
			l[at] = 1 - l[at]
		}
		if Fit(f, l[1:], was) || Fit(f, l[:len(l)-1], was) || !Fit(f, append(l, 0), was) {
			t.Fatalf("%v: %v, with a token less, or more", l, was)
		}
	}
}

// P15.1: drawn ways, and drawn grammars.
func TestDrawnFit(t *testing.T) {
	seed := sample.Seed(151)
	fit := 0
	for range 3000 {
		f := sample.Flat(&seed, sample.Symbols(2, 2), 5, 2)
		d := sample.AnyWay(&seed, 1+seed.Below(4))
		l := []int{seed.Below(2), seed.Below(4) - 1, seed.Below(2)}[:seed.Below(4)]
		if way, row, ok := sample.Way(&seed, f, 2, 2); ok && seed.Below(3) > 0 { // else hardly one is fit
			d, l = way, row
			parts := sample.PartsOf(&d)
			part := parts[seed.Below(len(parts))]
			for _, field := range []*int{&part.Sym, &part.Prod, &part.From, &part.To, &part.Junk} {
				*field += []int{0, 0, 0, 0, 0, 0, 1, -1}[seed.Below(8)]
			}
		}
		got := Fit(f, l, d)
		if got != fitByWords(f, l, d) {
			t.Fatalf("%v, %v: Fit of %v: %v", f, l, d, got)
		}
		if got {
			fit++
		}
	}
	if fit < 100 || fit > 2900 {
		t.Errorf("%d of them are fit", fit)
	}
}

// P15.1: what a way counts.
func TestPrec(t *testing.T) {
	f := sample.FlatOf("x", "a", "a -> a a; a -> x; a ->")
	f.Prods[0].Prec, f.Prods[1].Prec, f.Prods[2].Prec = 100, -7, 10000
	for _, c := range []struct {
		what string
		d    api.Der
		want int
	}{
		{"a way of nothing", by(2, 1, 0, 0), 10000},
		{"a terminal", leaf(0, 0), 0},
		{"one with a kid", by(1, 1, 0, 1, leaf(0, 0)), -7},
		{"one with kids", by(0, 1, 0, 2, by(1, 1, 0, 1, leaf(0, 0)), by(1, 1, 1, 2, leaf(0, 1))), 86},
		{"kids of kids", by(0, 1, 0, 2, by(0, 1, 0, 2, by(1, 1, 0, 1), by(1, 1, 1, 2)), by(2, 1, 2, 2)), 10186},
		{"a production that is not there", by(3, 1, 0, 0), 0},
		{"the greatest one", by(math.MaxInt, 1, 0, 0), 0},
		{"the least one", by(math.MinInt, 1, 0, 0), 0},
		{"a missing one", by(-2, 0, 0, 0), 0},
		{"one that is not there, with kids", by(3, 1, 0, 2, by(0, 1, 0, 2), by(-5, 1, 0, 0, by(1, 1, 0, 0))), 93},
		{"a production at a terminal", by(0, 0, 0, 1), 100},
		{"a production of another symbol", by(2, 77, 9, -9), 10000},
		{"kids too many", by(2, 1, 0, 0, by(2, 1, 0, 0), by(2, 1, 0, 0), by(2, 1, 0, 0)), 40000},
		{"Junk does not count", api.Der{Prod: 1, Junk: 5}, -7},
		{"the zero way", api.Der{}, 100},
	} {
		if got := Prec(f, c.d); got != c.want || precByWords(f, c.d) != c.want {
			t.Errorf("%s: %d", c.what, got)
		}
	}
	if got := Prec(api.Flat{}, by(0, 0, 0, 0, by(1, 0, 0, 0))); got != 0 {
		t.Errorf("without productions: %d", got)
	}
}
