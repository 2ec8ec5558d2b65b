package rex

import (
	"slices"
	"testing"

	"bramble/api"
)

func nothing() api.Rex         { return api.Rex{Op: api.RxEmpty} }
func cat(l ...api.Rex) api.Rex { return api.Rex{Op: api.RxCat, Subs: l} }
func alt(l ...api.Rex) api.Rex { return api.Rex{Op: api.RxAlt, Subs: l} }
func star(x api.Rex) api.Rex   { return api.Rex{Op: api.RxStar, Subs: []api.Rex{x}} }
func plus(x api.Rex) api.Rex   { return api.Rex{Op: api.RxPlus, Subs: []api.Rex{x}} }
func opt(x api.Rex) api.Rex    { return api.Rex{Op: api.RxOpt, Subs: []api.Rex{x}} }
func one(letter int) api.Rex   { return in(letter, letter) }
func in(ends ...int) api.Rex   { return api.Rex{Op: api.RxSet, Set: ranges(ends...)} }
func many(n int, x api.Rex) api.Rex {
	return cat(slices.Repeat([]api.Rex{x}, n)...)
}

// ranges is letters by the ends of their ranges, one behind the other.
func ranges(ends ...int) []api.Runes {
	var l []api.Runes
	for i := 0; i < len(ends); i += 2 {
		l = append(l, api.Runes{Lo: ends[i], Hi: ends[i+1]})
	}
	return l
}

// grown is the expressions that are one of some, or one of the kinds over some.
func grown(l []api.Rex) []api.Rex {
	out := slices.Clone(l)
	for _, x := range l {
		out = append(out, star(x), plus(x), opt(x))
		for _, y := range l {
			out = append(out, cat(x, y), alt(x, y))
		}
	}
	return out
}

// smalls is every expression of at most two kinds within one another over nothing, a and b, and some with three parts and wider sets.
func smalls() []api.Rex {
	a, b := one('a'), one('b')
	first := grown([]api.Rex{nothing(), a, b})
	all := grown(first)
	for _, x := range first {
		all = append(all, cat(x, a, x), cat(a, x, b), cat(x, x, x), alt(x, a, x), alt(a, b, x))
		all = append(all, star(cat(x, b, x)), plus(alt(x, cat(a, x), b)), cat(star(x), plus(x), opt(x)))
	}
	wide := in(0, 9, 11, 0xD7FF, 0xE000, 0x10FFFF)
	return append(all, wide, star(in('a', 'b')), cat(wide, in('a', 'a', 'c', 'z'), wide), in('(', '(', '-', '-', '[', '^'))
}

// copied is an expression in memory of its own.
func copied(x api.Rex) api.Rex {
	y := api.Rex{Op: x.Op, Set: slices.Clone(x.Set)}
	for _, sub := range x.Subs {
		y.Subs = append(y.Subs, copied(sub))
	}
	return y
}

// spoil writes over everything that an expression has in its lists.
func spoil(x api.Rex) {
	for i := range x.Set {
		x.Set[i] = api.Runes{Lo: 1, Hi: 2}
	}
	for i := range x.Subs {
		spoil(x.Subs[i])
		x.Subs[i] = api.Rex{Op: 99}
	}
}

// Every call is made, and what it was given is held against a copy from ahead.
func TestArgumentsStay(t *testing.T) {
	for _, x := range append(smalls(), star(in('c', 'd', 'a', 'b')), api.Rex{Op: 99, Set: ranges(3, 1)}) {
		// Room behind the lists, so that one that grows in place is seen.
		room := append(slices.Clone(x.Set), api.Runes{Lo: 7, Hi: 7})
		subs := append(slices.Clone(x.Subs), one('z'))
		y := api.Rex{Op: x.Op, Set: room[:len(x.Set)], Subs: subs[:len(x.Subs)]}
		was := copied(y)
		Print(y)
		Fit(y)
		Same(y, x)
		Empty(y)
		Longest(y, "aab\xff")
		if !Same(y, was) || room[len(x.Set)] != (api.Runes{Lo: 7, Hi: 7}) || !Same(subs[len(x.Subs)], one('z')) {
			t.Fatalf("%v has changed to %v", was, y)
		}
	}
}

// What was told once may be written over: nothing that is told later, or beside it, changes.
func TestAnswersShareNothing(t *testing.T) {
	const s = `(\d\w\s|\d\w\s|..|[^a][^a]|[\w\d]|aa|\n)*`
	want, _ := Parse(s)
	was := copied(want)
	got, _ := Parse(s)
	spoil(got)
	again, _ := Parse(s)
	if !Same(want, was) || !Same(again, was) {
		t.Errorf("Parse tells %v, then %v", was, again)
	}
	x, _ := Plain("aab")
	if spoil(x.Subs[0]); !Same(x.Subs[1], one('a')) {
		t.Errorf("Plain: %v", x)
	}
	x, _ = Parse(`\w\w..[^a][^a]`)
	for i := range x.Subs {
		rest := copied(cat(x.Subs[i+1:]...))
		if spoil(x.Subs[i]); !Same(cat(x.Subs[i+1:]...), rest) {
			t.Errorf("part %d shares what a later one has", i)
		}
	}
}

// hostile is expressions of wrong kinds and parts, lists that hold themselves, far too many parts, far too deep: no promise but that the calls end.
func hostile() []api.Rex {
	var all []api.Rex
	for op := -1; op <= api.NumRxs; op++ {
		all = append(all, api.Rex{Op: op}, api.Rex{Op: op, Subs: []api.Rex{{}}}, api.Rex{Op: op, Subs: []api.Rex{{}, {}}})
		all = append(all, api.Rex{Op: op, Subs: []api.Rex{one('a'), one('a'), one('a')}, Set: ranges('a', 'b')})
		all = append(all, api.Rex{Op: op, Set: ranges(-5, 1<<40)}, api.Rex{Op: op, Set: ranges('b', 'a')})
		loop := make([]api.Rex, 2)
		loop[0] = api.Rex{Op: op, Subs: loop}
		loop[1] = api.Rex{Op: op, Subs: loop[:1]}
		all = append(all, loop...)
		deep, wide := one('a'), one('a')
		for range 1 << 16 {
			deep = api.Rex{Op: op, Subs: []api.Rex{deep}}
		}
		for range 60 {
			wide = api.Rex{Op: op, Subs: []api.Rex{wide, wide}}
		}
		all = append(all, deep, wide)
	}
	return all
}

func TestUnfitEnds(t *testing.T) {
	for _, x := range hostile() {
		Fit(x)
		Print(x)
		Empty(x)
		Longest(x, "aab")
		Longest(x, "")
	}
}

func TestSameIsFieldByField(t *testing.T) {
	for _, c := range []struct {
		a, b api.Rex
		want bool
	}{
		{api.Rex{}, api.Rex{}, true},
		{api.Rex{Op: -7}, api.Rex{Op: -7}, true},
		{api.Rex{Op: -7}, api.Rex{Op: 7}, false},
		{nothing(), nothing(), true},
		{nothing(), api.Rex{Op: api.RxEmpty, Set: []api.Runes{}, Subs: []api.Rex{}}, true},
		{nothing(), one('a'), false},
		{one('a'), one('a'), true},
		{one('a'), one('b'), false},
		{in('a', 'c'), in('a', 'b'), false},
		{in('a', 'c'), in('b', 'c'), false},
		{in('a', 'a', 'c', 'c'), in('a', 'a'), false},
		{in('a', 'a', 'c', 'c'), in('c', 'c', 'a', 'a'), false},
		{in('a', 'b'), in('a', 'a', 'b', 'b'), false},
		{in('b', 'a'), in('b', 'a'), true},
		{star(one('a')), star(one('a')), true},
		{star(one('a')), plus(one('a')), false},
		{star(one('a')), star(one('b')), false},
		{star(one('a')), opt(plus(one('a'))), false},
		{cat(one('a'), one('b')), cat(one('a'), one('b')), true},
		{cat(one('a'), one('b')), cat(one('b'), one('a')), false},
		{cat(one('a'), one('b')), alt(one('a'), one('b')), false},
		{cat(one('a'), one('b')), cat(one('a'), one('b'), nothing()), false},
		{cat(one('a'), one('b'), one('c')), cat(cat(one('a'), one('b')), one('c')), false},
		{cat(), cat(), true},
		{cat(one('a')), one('a'), false},
		{api.Rex{Op: 2, Set: ranges(1, 2), Subs: []api.Rex{{}}}, api.Rex{Op: 2, Set: ranges(1, 2)}, false},
		{api.Rex{Op: 3, Set: ranges(1, 2)}, api.Rex{Op: 3}, false},
	} {
		if Same(c.a, c.b) != c.want || Same(c.b, c.a) != c.want {
			t.Errorf("Same(%v, %v) is not %v", c.a, c.b, c.want)
		}
	}
}

func TestSameOfAllSmall(t *testing.T) {
	all := grown([]api.Rex{nothing(), one('a'), one('b')})
	for i, x := range all {
		for j, y := range all {
			if Same(x, copied(y)) != (i == j) {
				t.Fatalf("Same(%v, %v) is %v", x, y, i != j)
			}
		}
	}
}

func TestSameOfDeep(t *testing.T) {
	a, b, c := one('a'), one('a'), one('b')
	for range 1<<16 - 1 {
		a, b, c = star(a), star(b), star(c)
	}
	if !Same(a, b) || Same(a, c) {
		t.Error("Same does not go down to the leaf")
	}
}
