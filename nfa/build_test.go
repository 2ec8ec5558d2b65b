package nfa

import (
	"slices"
	"strings"
	"testing"

	"bramble/api"
	"bramble/rex"
	"bramble/sample"
)

// farthest is how far expressions go by rex.Longest, and the first that goes so far.
func farthest(l []api.Rex, s string) (int, int) {
	far, what := 0, -1
	for i, x := range l {
		if n, ok := rex.Longest(x, s); ok && (what == -1 || n > far) {
			far, what = n, i
		}
	}
	return far, what
}

// holds runs the machine of expressions on texts, and holds it against them.
func holds(t *testing.T, l []api.Rex, texts []string) {
	t.Helper()
	m := built(t, l...)
	for _, s := range texts {
		far, what := Run(m, s)
		if n, i := farthest(l, s); far != n || what != i {
			t.Fatalf("%v on %q: %d, %d, not %d, %d", l, s, far, what, n, i)
		}
	}
}

func TestBuildTold(t *testing.T) {
	for _, c := range []struct {
		l         []string
		s         string
		far, what int
	}{
		{[]string{"ab", "a+"}, "aab", 2, 1},
		{[]string{"ab", "a+"}, "ab", 2, 0},
		{[]string{"ab", "a+"}, "b", 0, -1},
		{[]string{"ab", "a+"}, "", 0, -1},
		{[]string{"a+", "ab"}, "ab", 2, 1},
		{[]string{"a", "a", "a"}, "a", 1, 0},
		{[]string{"b", "a", "[ab]"}, "a", 1, 1},
		{[]string{"[ab]", "a", "b"}, "b", 1, 0},
		{[]string{"if", "[a-z]+"}, "if", 2, 0},
		{[]string{"if", "[a-z]+"}, "ifs", 3, 1},
		{[]string{"a", ""}, "b", 0, 1},
		{[]string{"", "a*"}, "b", 0, 0},
		{[]string{"", "a*"}, "aab", 2, 1},
		{[]string{"a*", ""}, "", 0, 0},
		{[]string{"abc", "a"}, "abd", 1, 1},
		{[]string{"(ab)*"}, "ababa", 4, 0},
		{[]string{"(a*)*b"}, "aaac", 0, -1},
		{[]string{"é", "[é-€]+"}, "é€", 5, 1},
		{[]string{"é"}, "\xc3", 0, -1},
		{[]string{".*"}, "aé€\U0001F333\nb", 10, 0},
		{[]string{".*"}, "ab\xffc", 2, 0},
		{[]string{".*"}, "ab\xc3", 2, 0},
		{[]string{"."}, "\xc0\x80", 0, -1},
		{[]string{"."}, "\xed\xa0\x80", 0, -1},
		{[]string{"[^a]*"}, "\ud7ff\ue000\U0010ffffa", 10, 0},
	} {
		if far, what := Run(built(t, read(t, c.l...)...), c.s); far != c.far || what != c.what {
			t.Errorf("%q on %q: %d, %d, not %d, %d", c.l, c.s, far, what, c.far, c.what)
		}
	}
}

// grown is the expressions that are one of some, or one of the kinds over some.
func grown(l []string) []string {
	out := slices.Clone(l)
	for _, x := range l {
		x = "(" + x + ")"
		out = append(out, x+"*", x+"+", x+"?")
		for _, y := range l {
			y = "(" + y + ")"
			out = append(out, x+y, x+"|"+y)
		}
	}
	return out
}

func TestBuildOfAllSmall(t *testing.T) {
	all := append(sample.Texts([]string{"a", "b"}, 4), "c", "abc", "aé", "\xff", "a\xffb")
	for _, x := range grown(grown([]string{"", "a", "b"})) {
		holds(t, read(t, x), all)
	}
}

func TestBuildOfAllSmallPairs(t *testing.T) {
	all := append(sample.Texts([]string{"a", "b"}, 3), "c", "bé")
	parts := grown([]string{"", "a", "b"})
	for _, x := range parts {
		for _, y := range parts {
			holds(t, read(t, x, y), all)
			holds(t, read(t, "b", y, x, y), all)
		}
	}
}

// drawnSet is a set of letters of all lengths.
func drawnSet(seed *sample.Seed) api.Rex {
	x := oneOf()
	at := seed.Below(3) * 'a'
	for at < 0x10FFFF && (len(x.Set) == 0 || seed.Below(4) > 0) {
		hi := min(at+seed.Below(2<<seed.Below(17)), 0x10FFFF)
		if at > 0xDFFF || hi < 0xD800 {
			x.Set = append(x.Set, letters(at, hi))
		}
		at = hi + 2 + seed.Below(2<<seed.Below(17))
	}
	if len(x.Set) == 0 {
		return oneOf(letters('é', 'é'))
	}
	return x
}

// drawnRex is an expression of at most so many kinds within one another.
func drawnRex(seed *sample.Seed, depth int) api.Rex {
	if depth == 0 {
		return drawnSet(seed)
	}
	a, b := drawnRex(seed, depth-1), drawnRex(seed, depth-1)
	switch op := 1 + seed.Below(api.NumRxs-1); op {
	case api.RxStar, api.RxPlus, api.RxOpt:
		return over(op, a)
	case api.RxCat, api.RxAlt:
		return over(op, a, b)
	}
	return over(api.RxAlt, a, over(api.RxEmpty), b)
}

func TestBuildOfDrawn(t *testing.T) {
	seed := sample.Seed(6)
	parts := []string{"a", "b", "\x00", "é", "\u07ff", "\u0800", "€", "\ud7ff", "\ue000", "\uffff", "\U00010000", "\U0001F333", "\U0010ffff", "\xff", "\xc3", "\xed\xa0\x80"}
	for n := range 1500 {
		var l []api.Rex
		for range 1 + n%3 {
			l = append(l, drawnRex(&seed, n%3))
		}
		all := append(sample.Texts(parts, 1), parts...)
		for range 40 {
			s := ""
			for range 1 + seed.Below(5) {
				s += parts[seed.Below(len(parts))]
			}
			all = append(all, s, s[:len(s)-1], s[1:])
		}
		holds(t, l, all)
	}
}

// filler is expressions that want so many states in all, two at the least.
func filler(n int) []string {
	l := slices.Repeat([]string{"a"}, n/2)
	if n%2 == 1 {
		l[0] = "é"
	}
	return l
}

// Each expression is filled up to just as many states as there may be, and to one more.
func TestBuildWantsJustSoMany(t *testing.T) {
	for _, c := range []struct {
		x    string
		want int
	}{
		{"", 2},
		{"a", 2},
		{"[a-z]", 2},
		{"[a-cx-z5]", 2},
		{`\w`, 2},
		{"é", 3},
		{"€", 4},
		{"\U0001F333", 5},
		{"[aé]", 3},
		{"[éè]", 3}, // E8 and E9 are one range
		{"[éà]", 4},
		{"[aé€\U0001F333]", 8},
		{"[\u0080-\u07ff]", 3},
		{"[\u0800-\ud7ff]", 8},
		{"[\ue000-\uffff]", 4},
		{"[\ud7ff\ue000]", 6},
		{"[\U00010000-\U0010ffff]", 11},
		{"[^a]", 20},
		{".", 20},
		{"[^é]", 23},
		{"ab", 4},
		{"abc", 6},
		{"aéb", 7},
		{"a()", 4},
		{"a|b", 6},
		{"a|b|c", 8},
		{"a|", 6},
		{"a*", 4},
		{"a+", 4},
		{"a?", 4},
		{"()*", 4},
		{"(ab)*", 6},
		{"(a|b)+", 8},
		{"(a|bc)?d", 12},
		{"((a*)*)*", 8},
		{"(a(b(cd)))", 8},
		{"(a|(b|(c|d)))", 14},
	} {
		room := api.MaxNfa - 1 - c.want
		for _, l := range [][]string{append(filler(room), c.x), append([]string{c.x}, filler(room)...)} {
			if m, err := Build(read(t, l...)); err != api.OK || !Fit(m) {
				t.Errorf("%q with room for %d states: %v, %d states", c.x, c.want, err, len(m.States))
			}
		}
		for _, l := range [][]string{append(filler(room+1), c.x), append([]string{c.x}, filler(room+1)...)} {
			if m, err := Build(read(t, l...)); err != api.ErrMany || m.States != nil {
				t.Errorf("%q with room for %d states: %v, %d states", c.x, c.want-1, err, len(m.States))
			}
		}
	}
}

// sparse is a set of n letters, none beside another one, from the letter at on.
func sparse(at, n int) api.Rex {
	x := oneOf()
	for range n {
		x.Set = append(x.Set, letters(at, at))
		at += 2
	}
	return x
}

func TestBuildAtTheLimit(t *testing.T) {
	many := func(n int, x api.Rex) []api.Rex { return slices.Repeat([]api.Rex{x}, n) }
	one := func(letter int) api.Rex { return oneOf(letters(letter, letter)) }
	for _, c := range []struct {
		name string
		l    []api.Rex
		want api.Errno
	}{
		{"1999 of two", many(1999, one('a')), api.OK},
		{"2000 of two", many(2000, one('a')), api.ErrMany},
		{"1333 of three", many(1333, one('é')), api.OK},
		{"1334 of three", many(1334, one('é')), api.ErrMany},
		{"far too many", many(100000, one('a')), api.ErrMany},
		{"far too many of many", many(5000, sparse(0x4000, 9000)), api.ErrMany},
		{"3993 in four sets", many(4, sparse(0x4000, 498)), api.OK},
		{"a set of 3995", append(many(1, sparse(0x10000, 1331)), one('a')), api.OK},
		{"a set of 3998", append(many(1, sparse(0x10000, 1332)), one('a')), api.ErrMany},
		{"a set of very many", many(1, sparse(0x10000, 400000)), api.ErrMany},
		{"sets of very many", many(1, over(api.RxCat, many(400, sparse(0x10000, 100000))...)), api.ErrMany},
		{"a list of letters", many(1, over(api.RxCat, many(400, sparse(0x80, 7))...)), api.OK},
		{"a list of letters, too many", many(1, over(api.RxCat, many(400, sparse(0x80, 8))...)), api.ErrMany},
		{"a choice of letters", many(1, over(api.RxAlt, many(400, sparse(0x80, 7))...)), api.OK},
		{"a choice of letters, too many", many(1, over(api.RxAlt, append(many(399, sparse(0x80, 8)), sparse(0x80, 8))...)), api.ErrMany},
		{"3993 in a list", many(1, over(api.RxCat, append(many(399, sparse(0x80, 8)), one('a'))...)), api.OK},
	} {
		m, err := Build(c.l)
		if err != c.want || Fit(m) != (err == api.OK) || err != api.OK && m.States != nil {
			t.Errorf("%s: %v, %d states", c.name, err, len(m.States))
		}
	}
	// The greatest one still does what it must.
	l := append(many(1998, one('b')), one('é'))
	holds(t, l, []string{"", "a", "b", "bb", "é", "\xc3"})
}

func TestBuildOfWrong(t *testing.T) {
	a := oneOf(letters('a', 'a'))
	deep := a
	for range 18 {
		deep = over(api.RxCat, a, deep)
	}
	loop := make([]api.Rex, 2)
	loop[0] = a
	loop[1] = over(api.RxCat, loop...)
	wrong := []api.Rex{
		{}, {Op: -1}, {Op: api.NumRxs}, oneOf(), oneOf(letters('b', 'a')), oneOf(letters('a', 'b'), letters('c', 'd')),
		oneOf(letters(0, 0xD800)), oneOf(letters(-1, 5)), oneOf(letters(0x10FFFF, 0x110000)),
		over(api.RxCat), over(api.RxCat, a), over(api.RxAlt, a), over(api.RxStar), over(api.RxStar, a, a), over(api.RxEmpty, a),
		over(api.RxStar, over(api.RxCat, a, oneOf())), deep, over(api.RxCat, slices.Repeat([]api.Rex{a}, 401)...), loop[1],
	}
	many := slices.Repeat([]api.Rex{a}, 5000)
	for i, x := range wrong {
		for _, l := range [][]api.Rex{{x}, {x, a}, {a, x}, {a, x, a}, append(many[:5000:5000], x), append([]api.Rex{x}, many...)} {
			if m, err := Build(l); err != api.ErrState || m.States != nil {
				t.Errorf("wrong one %d among %d: %v, %d states", i, len(l), err, len(m.States))
			}
		}
	}
	for _, l := range [][]api.Rex{nil, {}} {
		if m, err := Build(l); err != api.ErrState || m.States != nil {
			t.Errorf("no expression: %v, %d states", err, len(m.States))
		}
	}
}

// What has as many parts and parentheses as it may is built, too.
func TestBuildOfGreat(t *testing.T) {
	deep := strings.Repeat("(", 16) + "a" + strings.Repeat("*)", 16) + "*"
	long := strings.Repeat("b", 400)
	holds(t, read(t, deep, long), []string{"", "aaa", "aab", long[1:], long, long + "b"})
}
