package rex

import (
	"slices"
	"testing"

	"bramble/api"
)

// nested is an RxCat within RxCats, so that what Print writes has so many parentheses within one another.
func nested(depth int, x api.Rex) api.Rex {
	for range depth {
		x = cat(one('a'), x)
	}
	return x
}

func TestFitTold(t *testing.T) {
	a := one('a')
	for _, c := range []struct {
		name string
		x    api.Rex
		want bool
	}{
		{"no kind", api.Rex{}, false},
		{"kind below", api.Rex{Op: -1}, false},
		{"kind above", api.Rex{Op: api.NumRxs, Subs: []api.Rex{a}}, false},
		{"nothing", nothing(), true},
		{"nothing with an empty list", api.Rex{Op: api.RxEmpty, Set: []api.Runes{}, Subs: []api.Rex{}}, true},
		{"nothing with a set", api.Rex{Op: api.RxEmpty, Set: ranges('a', 'a')}, false},
		{"nothing with a sub", api.Rex{Op: api.RxEmpty, Subs: []api.Rex{a}}, false},
		{"set", a, true},
		{"set of none", in(), false},
		{"set with a sub", api.Rex{Op: api.RxSet, Set: ranges('a', 'a'), Subs: []api.Rex{a}}, false},
		{"cat of none", cat(), false},
		{"cat of one", cat(a), false},
		{"cat of two", cat(a, a), true},
		{"cat of three", cat(a, a, a), true},
		{"cat with a set", api.Rex{Op: api.RxCat, Subs: []api.Rex{a, a}, Set: ranges('a', 'a')}, false},
		{"alt of none", alt(), false},
		{"alt of one", alt(a), false},
		{"alt of two", alt(a, nothing()), true},
		{"alt with a set", api.Rex{Op: api.RxAlt, Subs: []api.Rex{a, a}, Set: ranges('a', 'a')}, false},
		{"wrong first sub", cat(in(), a), false},
		{"wrong last sub", cat(a, cat(a)), false},
		{"wrong sub far within", star(alt(a, cat(a, plus(opt(in('b', 'a')))))), false},
		{"right sub far within", star(alt(a, cat(a, plus(opt(in('a', 'b')))))), true},
	} {
		if Fit(c.x) != c.want {
			t.Errorf("%s: Fit(%v) is not %v", c.name, c.x, c.want)
		}
	}
	for _, op := range []int{api.RxStar, api.RxPlus, api.RxOpt} {
		for n := range 4 {
			x := api.Rex{Op: op, Subs: slices.Repeat([]api.Rex{a}, n)}
			if Fit(x) != (n == 1) {
				t.Errorf("kind %d of %d subs: %v", op, n, n != 1)
			}
		}
		if Fit(api.Rex{Op: op, Subs: []api.Rex{a}, Set: ranges('a', 'a')}) || Fit(api.Rex{Op: op, Subs: []api.Rex{{}}}) {
			t.Errorf("kind %d with a set, or with a sub that is not fit", op)
		}
	}
}

func TestFitOfSets(t *testing.T) {
	const least, most = -1 << 63, 1<<63 - 1
	for _, c := range []struct {
		x    api.Rex
		want bool
	}{
		{in(0, 0), true},
		{in(0, 0xD7FF), true},
		{in(0xE000, 0x10FFFF), true},
		{in(0x10FFFF, 0x10FFFF), true},
		{in(0, 0x10FFFF), false},
		{in(-1, 0), false},
		{in(-1, -1), false},
		{in(0x110000, 0x110000), false},
		{in(0x10FFFF, 0x110000), false},
		{in('b', 'a'), false},
		{in('b', 'a', 'c', 'c'), false},
		{in(0xD800, 0xD800), false},
		{in(0xDFFF, 0xDFFF), false},
		{in(0xD900, 0xDA00), false},
		{in(0xD7FF, 0xD800), false},
		{in(0xDFFF, 0xE000), false},
		{in(0xD7FF, 0xE000), false},
		{in(0xD7FF, 0xD7FF, 0xE000, 0xE000), true},
		{in(0, 0xD7FF, 0xE000, 0x10FFFF), true},
		{in(0xE000, 0xE000, 0xD7FF, 0xD7FF), false},
		{in('a', 'b', 'd', 'e'), true},
		{in('a', 'b', 'c', 'e'), false},
		{in('a', 'b', 'b', 'e'), false},
		{in('a', 'c', 'b', 'e'), false},
		{in('a', 'b', 'a', 'b'), false},
		{in('d', 'e', 'a', 'b'), false},
		{in('a', 'a', 'c', 'c', 'e', 'e'), true},
		{in('a', 'a', 'c', 'c', 'd', 'd'), false},
		{in(least, most), false},
		{in(most, least), false},
		{in(least, least), false},
		{in(most, most), false},
		{in(0, most), false},
		{in(0, 0, most, most), false},
		{in(0, 0, least, 5), false},
	} {
		if Fit(c.x) != c.want {
			t.Errorf("Fit(%x) is not %v", c.x.Set, c.want)
		}
	}
}

func TestFitCountsLeaves(t *testing.T) {
	a := one('a')
	half := many(200, in('a', 'z'))
	for _, c := range []struct {
		name string
		x    api.Rex
		want bool
	}{
		{"400 sets", many(400, a), true},
		{"401 sets", many(401, a), false},
		{"400 of nothing", many(400, nothing()), true},
		{"401 of nothing", many(401, nothing()), false},
		{"200 and 200", alt(half, star(half)), true},
		{"200 and 200 and 1", alt(half, star(half), nothing()), false},
		{"400 within others", alt(opt(many(399, plus(a))), nothing()), true},
		{"401 within others", alt(opt(many(400, plus(a))), nothing()), false},
	} {
		if Fit(c.x) != c.want {
			t.Errorf("%s: %v", c.name, !c.want)
		}
	}
}

// The parentheses are those that Print writes: the innermost one of each is just at the limit, or one behind it.
func TestFitCountsParentheses(t *testing.T) {
	a, b := one('a'), one('b')
	for _, c := range []struct {
		name string
		most int // how deep the part may lie
		x    api.Rex
	}{
		{"set", 17, a},
		{"nothing", 16, nothing()},
		{"star of a set", 17, star(a)},
		{"star of nothing", 16, star(nothing())},
		{"star of star", 16, star(star(a))},
		{"star of cat", 16, star(cat(a, b))},
		{"star of star of cat", 15, star(star(cat(a, b)))},
		{"cat", 16, cat(a, b)},
		{"cat with nothing", 15, cat(a, nothing())},
		{"alt", 16, alt(a, b)},
		{"alt with nothing", 15, alt(a, nothing())},
		{"alt of cats", 16, alt(cat(a, b), cat(b, a))},
		{"alt of alts", 15, alt(a, alt(a, b))},
		{"alt of cat of star", 16, alt(a, cat(a, star(a)))},
		{"cat of star of alt", 15, cat(a, star(alt(a, b)))},
		{"the first of three", 14, alt(alt(star(alt(a, b)), b), b, a)},
	} {
		if !Fit(nested(c.most, c.x)) {
			t.Errorf("%s at %d is not fit", c.name, c.most)
		}
		if Fit(nested(c.most+1, c.x)) {
			t.Errorf("%s at %d is fit", c.name, c.most+1)
		}
		// Many side by side are not within one another.
		if !Fit(cat(slices.Repeat([]api.Rex{nested(c.most-1, c.x)}, 5)...)) {
			t.Errorf("%s at %d, five times, is not fit", c.name, c.most)
		}
	}
}

// deepest is how many parentheses lie within one another in a text that has no letter ( or ).
func deepest(s string) int {
	open, most := 0, 0
	for _, c := range s {
		switch c {
		case '(':
			open++
			most = max(most, open)
		case ')':
			open--
		}
	}
	return most
}

func TestFitIsWhatPrintWrites(t *testing.T) {
	kinds := []func(api.Rex) api.Rex{
		star, plus, opt,
		func(x api.Rex) api.Rex { return cat(one('a'), x) },
		func(x api.Rex) api.Rex { return cat(x, one('a')) },
		func(x api.Rex) api.Rex { return alt(x, one('a')) },
		func(x api.Rex) api.Rex { return alt(one('b'), nothing(), x) },
	}
	seed := 1
	for range 3000 {
		x := []api.Rex{one('a'), nothing()}[seed/7%2]
		for Fit(x) {
			if got := deepest(Print(x)); got > 16 {
				t.Fatalf("Print has %d parentheses within one another: %s", got, Print(x))
			}
			seed = (seed*1103515245 + 12345) & 0x7fffffff
			x = kinds[seed>>8%len(kinds)](x)
		}
		if got := deepest(Print(x)); got != 17 {
			t.Fatalf("not fit with %d parentheses within one another: %s", got, Print(x))
		}
	}
}
