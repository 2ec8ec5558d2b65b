package mend

import (
	"math"
	"testing"

	"bramble/api"
	"bramble/sample"
)

// token is a way of a terminal that stands somewhere, with so many tokens passed over ahead of it.
func token(sym, from, junk int) api.Der {
	return api.Der{Sym: sym, Prod: -1, From: from, To: from + junk + 1, Junk: junk}
}

// gone is a way of a terminal that is missing.
func gone(sym, at int) api.Der {
	return api.Der{Sym: sym, Prod: -2, From: at, To: at}
}

// by is a way by a production, of some tokens.
func by(prod, sym, from, to int, kids ...api.Der) api.Der {
	return api.Der{Sym: sym, Prod: prod, From: from, To: to, Kids: kids}
}

// whole is a mended whole.
func whole(rest int, root api.Der) api.Mended {
	return api.Mended{Root: root, Rest: rest}
}

// nested is a grammar in which a is x and y with b between them, and b is nothing, y or a.
func nested() api.Flat {
	return sample.FlatOf("x y", "a b", "a -> x b y; b ->; b -> y; b -> a")
}

// fitCase is a whole of a row of x, 7, y, x, -1, 2, y, and whether it is one.
type fitCase struct {
	what string
	m    api.Mended
	want bool
}

// holdFit fails where another thing is told.
func holdFit(t *testing.T, all []fitCase) {
	t.Helper()
	f := nested()
	l := []int{0, 7, 1, 0, -1, 2, 1}
	for _, c := range all {
		if got := Fit(f, l, c.m); got != c.want || wholeFitByWords(f, l, c.m) != c.want {
			t.Errorf("%s: %v", c.what, got)
		}
	}
}

// ofA is a whole of a by its production, of three kids, from 0 to where the last one ends, and all behind it in Rest.
func ofA(x, b, y api.Der) api.Mended {
	return whole(7-y.To, by(0, 2, 0, y.To, x, b, y))
}

// P18.1: what each terminal's way must be.
func TestFitOfTerminals(t *testing.T) {
	none := func(at int) api.Der { return by(1, 3, at, at) }
	with := func(d api.Der, change func(d *api.Der)) api.Der {
		change(&d)
		return d
	}
	kid := []api.Der{gone(0, 0)}
	holdFit(t, []fitCase{
		{"all are missing", ofA(gone(0, 0), none(0), gone(1, 0)), true},
		{"one stands there", ofA(token(0, 0, 0), none(1), gone(1, 1)), true},
		{"one stands behind one that is passed over", ofA(token(0, 0, 0), none(1), token(1, 1, 1)), true},
		{"one stands behind many", ofA(gone(0, 0), none(0), token(1, 0, 6)), true},
		{"one stands behind others, with one like it among them", ofA(token(0, 0, 3), none(4), token(1, 4, 2)), true},
		{"another terminal stands there", ofA(token(0, 0, 2), none(3), gone(1, 3)), false},
		{"a number that is no terminal stands there", ofA(token(0, 0, 1), none(2), gone(1, 2)), false},
		{"a terminal behind the row", ofA(gone(0, 0), none(0), token(1, 0, 7)), false},
		{"a terminal far behind the row", ofA(gone(0, 0), none(0), with(token(1, 0, 0), func(d *api.Der) { d.Junk, d.To = math.MaxInt, math.MinInt })), false},
		{"a terminal far behind a place of the row", ofA(token(0, 0, 0), none(1), with(token(1, 1, 0), func(d *api.Der) { d.Junk, d.To = math.MaxInt, math.MinInt+1 })), false},
		{"Junk below 0", ofA(token(0, 0, 3), none(4), token(1, 4, -2)), false},
		{"Junk below 0, that goes nowhere", ofA(gone(0, 0), none(0), token(1, 0, -1)), false},
		{"the least Junk", ofA(gone(0, 0), none(0), token(1, 0, math.MinInt)), false},
		{"less Junk than To says", ofA(gone(0, 0), none(0), with(token(1, 0, 2), func(d *api.Der) { d.Junk = 1 })), false},
		{"more Junk than To says", ofA(gone(0, 0), none(0), with(token(1, 0, 2), func(d *api.Der) { d.Junk = 3 })), false},
		{"no Junk, and one passed over", ofA(token(0, 0, 0), none(1), with(token(1, 1, 1), func(d *api.Der) { d.Junk = 0 })), false},
		{"a token of no length", ofA(gone(0, 0), none(0), with(token(1, 0, 0), func(d *api.Der) { d.To = 0 })), false},
		{"Junk beside Prod -2", ofA(gone(0, 0), none(0), with(gone(1, 0), func(d *api.Der) { d.Junk = 1 })), false},
		{"Junk beside Prod -2, with To", ofA(gone(0, 0), none(0), with(gone(1, 0), func(d *api.Der) { d.Junk, d.To = 1, 1 })), false},
		{"Junk below 0 beside Prod -2", ofA(gone(0, 0), none(0), with(gone(1, 0), func(d *api.Der) { d.Junk = -1 })), false},
		{"a missing one that has a token", ofA(with(gone(0, 0), func(d *api.Der) { d.To = 1 }), none(1), gone(1, 1)), false},
		{"a missing one that goes back", ofA(token(0, 0, 0), none(1), with(gone(1, 1), func(d *api.Der) { d.To = 0 })), false},
		{"Prod -3", ofA(gone(0, 0), none(0), with(gone(1, 0), func(d *api.Der) { d.Prod = -3 })), false},
		{"Prod -3 of one that stands there", ofA(with(token(0, 0, 0), func(d *api.Der) { d.Prod = -3 }), none(1), gone(1, 1)), false},
		{"the least Prod", ofA(gone(0, 0), none(0), with(gone(1, 0), func(d *api.Der) { d.Prod = math.MinInt })), false},
		{"a production of a terminal", ofA(gone(0, 0), none(0), with(gone(1, 0), func(d *api.Der) { d.Prod = 0 })), false},
		{"a production without items of a terminal", ofA(gone(0, 0), none(0), with(gone(1, 0), func(d *api.Der) { d.Prod = 1 })), false},
		{"a production of a terminal that stands there", ofA(with(token(0, 0, 0), func(d *api.Der) { d.Prod = 0 }), none(1), gone(1, 1)), false},
		{"Kids of one that is missing", ofA(with(gone(0, 0), func(d *api.Der) { d.Kids = kid }), none(0), gone(1, 0)), false},
		{"Kids of one that stands there", ofA(with(token(0, 0, 0), func(d *api.Der) { d.Kids = kid }), none(1), gone(1, 1)), false},
		{"a list of none of one that is missing", ofA(with(gone(0, 0), func(d *api.Der) { d.Kids = kid[:0] }), none(0), gone(1, 0)), true},
		{"a list of none of one that stands there", ofA(with(token(0, 0, 0), func(d *api.Der) { d.Kids = kid[:0] }), none(1), gone(1, 1)), true},
	})
}

// P18.1: what each way of Nons, the Root, and Rest must be.
func TestFitOfNons(t *testing.T) {
	none := func(at int) api.Der { return by(1, 3, at, at) }
	with := func(change func(m *api.Mended)) api.Mended {
		m := ofA(token(0, 0, 0), by(2, 3, 1, 3, token(1, 1, 1)), token(1, 3, 3))
		change(&m)
		return m
	}
	inner := by(0, 2, 1, 1, gone(0, 1), none(1), gone(1, 1))
	holdFit(t, []fitCase{
		{"one with all tokens", with(func(m *api.Mended) {}), true},
		{"one within another", ofA(token(0, 0, 0), by(3, 3, 1, 1, inner), token(1, 1, 1)), true},
		{"Rest too little", with(func(m *api.Mended) { m.Rest = -1 }), false},
		{"Rest too great", with(func(m *api.Mended) { m.Rest = 1 }), false},
		{"Rest too little, of some", whole(3, by(0, 2, 0, 3, token(0, 0, 0), none(1), token(1, 1, 1))), false},
		{"Rest of some", whole(4, by(0, 2, 0, 3, token(0, 0, 0), none(1), token(1, 1, 1))), true},
		{"Rest too great, of some", whole(5, by(0, 2, 0, 3, token(0, 0, 0), none(1), token(1, 1, 1))), false},
		{"the greatest Rest", with(func(m *api.Mended) { m.Rest = math.MaxInt }), false},
		{"the least Rest", with(func(m *api.Mended) { m.Rest = math.MinInt }), false},
		{"To too little, and Rest as that says", with(func(m *api.Mended) { m.Root.To, m.Rest = 6, 1 }), false},
		{"To too great, and Rest as that says", with(func(m *api.Mended) { m.Root.To, m.Rest = 8, -1 }), false},
		{"a Root of the second of Nons", whole(4, by(2, 3, 0, 3, token(1, 0, 2))), false},
		{"a Root of the second of Nons, of nothing", whole(7, none(0)), false},
		{"a Root of a terminal", whole(6, token(0, 0, 0)), false},
		{"a Root of a terminal that is missing", whole(7, gone(0, 0)), false},
		{"a Root that begins later", whole(4, by(0, 2, 1, 3, gone(0, 1), none(1), token(1, 1, 1))), false},
		{"a Root that begins later, with a Rest too great", whole(6, by(0, 2, 1, 1, gone(0, 1), none(1), gone(1, 1))), false},
		{"a Root that begins below 0", whole(8, by(0, 2, -1, -1, gone(0, -1), none(-1), gone(1, -1))), false},
		{"a Root that says to begin later", with(func(m *api.Mended) { m.Root.From = 1 }), false},
		{"Junk of the Root", with(func(m *api.Mended) { m.Root.Junk = 1 }), false},
		{"Junk below 0 of the Root", with(func(m *api.Mended) { m.Root.Junk = -1 }), false},
		{"Junk of one of Nons", with(func(m *api.Mended) { m.Root.Kids[1].Junk = 1 }), false},
		{"one of Nons that stands there", with(func(m *api.Mended) { m.Root.Kids[1] = token(3, 1, 1) }), false},
		{"one of Nons that is missing", ofA(token(0, 0, 0), gone(3, 1), gone(1, 1)), false},
		{"a Root that is missing", whole(7, gone(2, 0)), false},
		{"a Root that stands there by its number", whole(1, token(2, 0, 5)), false},
		{"Prod -3 of one of Nons", ofA(token(0, 0, 0), by(-3, 3, 1, 1), gone(1, 1)), false},
		{"another symbol's production", with(func(m *api.Mended) { m.Root.Kids[1].Prod = 0 }), false},
		{"another production of the symbol's", with(func(m *api.Mended) { m.Root.Kids[1].Prod = 3 }), false},
		{"a production behind the last", with(func(m *api.Mended) { m.Root.Prod = 4 }), false},
		{"the greatest production", with(func(m *api.Mended) { m.Root.Prod = math.MaxInt }), false},
		{"another symbol", with(func(m *api.Mended) { m.Root.Kids[1].Sym = 2 }), false},
		{"a symbol behind the last", with(func(m *api.Mended) { m.Root.Kids[1].Sym = 4 }), false},
		{"a symbol below 0", with(func(m *api.Mended) { m.Root.Kids[0].Sym = -1 }), false},
		{"another terminal than the item's", with(func(m *api.Mended) { m.Root.Kids[2].Sym = 0 }), false},
		{"Kids too few", with(func(m *api.Mended) { m.Root.Kids = m.Root.Kids[:2] }), false},
		{"no Kids", with(func(m *api.Mended) { m.Root.Kids = nil }), false},
		{"Kids too many", with(func(m *api.Mended) { m.Root.Kids = append(m.Root.Kids, gone(0, 7)) }), false},
		{"kids in another order", with(func(m *api.Mended) { m.Root.Kids = []api.Der{none(0), gone(0, 0), token(1, 0, 6)} }), false},
		{"a kid that begins later", with(func(m *api.Mended) { m.Root.Kids[2] = token(1, 4, 2) }), false},
		{"a kid that begins earlier", with(func(m *api.Mended) { m.Root.Kids[2] = token(1, 2, 4) }), false},
		{"a first kid that begins later", with(func(m *api.Mended) { m.Root.Kids[0] = token(0, 3, 0) }), false},
		{"a kid of nothing that is elsewhere", ofA(token(0, 0, 0), none(2), gone(1, 1)), false},
		{"a kid of nothing that has a token", ofA(token(0, 0, 0), by(1, 3, 1, 2), gone(1, 2)), false},
		{"a missing one that is elsewhere", ofA(token(0, 0, 0), none(1), gone(1, 2)), false},
		{"a whole with nothing", api.Mended{}, false},
	})
}

// P18.1: one fault in one part of a whole, whichever that is, the deepest ones, too.
func TestFitOfOneFault(t *testing.T) {
	f := sample.FlatOf("x y", "a b", "a -> a b; a -> b; b -> x b y; b -> x; b -> y b; b -> x y")
	seed := sample.Seed(18)
	for range 60 {
		was, l, _ := sample.Mended(&seed, f, 4)
		if !Fit(f, l, was) {
			t.Fatalf("%v: %v is not fit", l, was)
		}
		for at := range sample.PartsOf(&was.Root) {
			for what, spoil := range []func(d *api.Der){
				func(d *api.Der) { d.Sym = (d.Sym + 1) % 4 },
				func(d *api.Der) { d.Sym = -1 },
				func(d *api.Der) { d.Prod = -3 },
				func(d *api.Der) { d.Prod = 99 },
				func(d *api.Der) { d.Prod ^= -1 },
				func(d *api.Der) { d.From++ },
				func(d *api.Der) { d.From-- },
				func(d *api.Der) { d.To++ },
				func(d *api.Der) { d.To-- },
				func(d *api.Der) { d.Junk++ },
				func(d *api.Der) { d.Junk-- },
				func(d *api.Der) { d.Kids = append(d.Kids, gone(0, d.To)) },
				func(d *api.Der) { d.Kids = append([]api.Der{gone(0, d.From)}, d.Kids...) },
			} {
				m := whole(was.Rest, sample.RoomyWay(was.Root))
				if spoil(sample.PartsOf(&m.Root)[at]); Fit(f, l, m) || wholeFitByWords(f, l, m) {
					t.Fatalf("%v: fault %d in part %d: %v is fit", l, what, at, m)
				}
			}
		}
		if Fit(f, append(l, 0), was) || Fit(f, l[:max(0, len(l)-1)], was) == (len(l) > 0) {
			t.Fatalf("%v: %v, with a token more, or less", l, was)
		}
	}
}

// P18.1: drawn wholes, and drawn grammars.
func TestDrawnFit(t *testing.T) {
	seed := sample.Seed(185)
	fit := 0
	for range 4000 {
		f := sample.Flat(&seed, sample.Symbols(2, 2), 5, 2)
		m := whole(seed.Below(4)-1, sample.AnyWay(&seed, 1+seed.Below(4)))
		l := []int{seed.Below(2), seed.Below(4) - 1, seed.Below(2)}[:seed.Below(4)]
		if drawn, row, ok := sample.Mended(&seed, f, 2); ok && seed.Below(3) > 0 { // else hardly one is fit
			m, l = drawn, row
			parts := sample.PartsOf(&m.Root)
			part := parts[seed.Below(len(parts))]
			for _, field := range []*int{&part.Sym, &part.Prod, &part.From, &part.To, &part.Junk, &m.Rest} {
				*field += []int{0, 0, 0, 0, 0, 0, 0, 0, 1, -1}[seed.Below(10)]
			}
		}
		got := Fit(f, l, m)
		if got != wholeFitByWords(f, l, m) {
			t.Fatalf("%v, %v: Fit of %v: %v", f, l, m, got)
		}
		if got {
			fit++
		}
	}
	if fit < 100 || fit > 3900 {
		t.Errorf("%d of them are fit", fit)
	}
}
