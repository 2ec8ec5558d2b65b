package rex

import (
	"slices"
	"strings"
	"testing"

	"bramble/api"
	"bramble/sample"
)

func TestPrintTold(t *testing.T) {
	a, b, c := one('a'), one('b'), one('c')
	for _, x := range []struct {
		x    api.Rex
		want string
	}{
		{nothing(), "()"},
		{a, "a"},
		{cat(a, b), "ab"},
		{alt(a, b), "a|b"},
		{alt(a, b, c), "a|b|c"},
		{star(a), "a*"},
		{plus(a), "a+"},
		{opt(a), "a?"},
		{star(nothing()), "()*"},
		{cat(a, nothing()), "a()"},
		{alt(a, nothing()), "a|()"},
		{alt(nothing(), nothing()), "()|()"},
		{cat(a, cat(b, c)), "a(bc)"},
		{cat(cat(a, b), c), "(ab)c"},
		{cat(a, alt(b, c)), "a(b|c)"},
		{cat(star(a), plus(b), opt(c)), "a*b+c?"},
		{alt(a, cat(b, c)), "a|bc"},
		{alt(cat(a, b), c), "ab|c"},
		{alt(alt(a, b), c), "(a|b)|c"},
		{alt(a, star(b)), "a|b*"},
		{star(star(a)), "(a*)*"},
		{plus(opt(a)), "(a?)+"},
		{opt(plus(star(a))), "((a*)+)?"},
		{opt(cat(a, b)), "(ab)?"},
		{plus(alt(a, b)), "(a|b)+"},
		{star(in('a', 'c')), "[a-c]*"},
		{alt(a, cat(star(b), c)), "a|b*c"},
		{star(cat(alt(a, b), cat(a, b), nothing())), "((a|b)(ab)())*"},
	} {
		if got := Print(x.x); got != x.want {
			t.Errorf("Print(%v) = %q, not %q", x.x, got, x.want)
		}
	}
}

func TestPrintOfSets(t *testing.T) {
	for _, x := range []struct {
		x    api.Rex
		want string
	}{
		{in('a', 'b'), "[a-b]"},
		{in('a', 'a', 'c', 'c'), "[ac]"},
		{in('a', 'c', 'e', 'e'), "[a-ce]"},
		{in('0', '9'), "[0-9]"},
		{in(9, 10, 13, 13, 32, 32), `[\t-\n\r ]`},
		{dot(), "[\x00-\\t\x0b-\ud7ff\ue000-\U0010ffff]"},
		{in(0xD7FF, 0xD7FF, 0xE000, 0xE000), "[\ud7ff\ue000]"},
		{in(0xE9, 0x20AC, 0x1F333, 0x1F333), "[é-€\U0001F333]"},
		{in('(', '+', '.', '.', '?', '?', '|', '|'), `[\(-\+\.\?\|]`},
		{in('-', '-', '[', ']', '_', '_'), `[\-\[-\]_]`},
		{in('^', '^', 'a', 'a'), `[\^a]`},
		{in('!', '/'), "[!-/]"},
		{one(0xFFFD), "\ufffd"},
	} {
		if got := Print(x.x); got != x.want {
			t.Errorf("Print(%x) = %q, not %q", x.x.Set, got, x.want)
		}
	}
}

// Of every letter below 128, and of those where the number of bytes changes.
func TestPrintOfLetters(t *testing.T) {
	const behind = `()[]*+?|.\-^`
	l := []int{0x80, 0xE9, 0x7FF, 0x800, 0x20AC, 0xD7FF, 0xE000, 0xFFFD, 0xFFFF, 0x10000, 0x10FFFF}
	for n := range 128 {
		l = append(l, n)
	}
	for _, n := range l {
		want := string(rune(n))
		switch {
		case n == 10:
			want = `\n`
		case n == 9:
			want = `\t`
		case n == 13:
			want = `\r`
		case strings.Contains(behind, want):
			want = `\` + want
		}
		if got := Print(one(n)); got != want {
			t.Errorf("Print of %x is %q, not %q", n, got, want)
		}
		if n == 'a' || n == '`' || n == 'b' {
			continue // these touch
		}
		two := pair(n, 'a')
		parts := []string{want, "a"}
		if n > 'a' {
			slices.Reverse(parts)
		}
		if got := Print(two); got != "["+strings.Join(parts, "")+"]" {
			t.Errorf("Print of %x and a is %q", n, got)
		}
	}
}

// back holds an expression against what Parse tells of what Print writes of it.
func back(t *testing.T, x api.Rex) {
	t.Helper()
	if !Fit(x) {
		t.Fatalf("%v is not fit", x)
	}
	s := Print(x)
	if got, f := Parse(s); f != (api.Fault{}) || !Same(got, x) {
		t.Fatalf("%v is written %q, and read %v, %v", x, s, got, f)
	}
}

func TestThereAndBackOfAllSmall(t *testing.T) {
	for _, x := range smalls() {
		back(t, x)
	}
}

func TestThereAndBackOfLetters(t *testing.T) {
	for n := 0; n <= 0x10FFFF; n += 1 + n/300 {
		if n >= 0xD800 && n <= 0xDFFF {
			continue
		}
		back(t, one(n))
		back(t, cat(one(n), star(one(n))))
	}
	for lo := range 128 {
		for hi := lo; hi < 128; hi++ {
			back(t, in(lo, hi))
			back(t, in(lo, hi, hi+2, 0xD7FF, 0xE000, 0x10FFFF))
		}
	}
}

func TestThereAndBackAtTheLimits(t *testing.T) {
	a := one('a')
	back(t, many(400, nothing()))
	back(t, many(400, in(0, 9, 11, 0xD7FF)))
	back(t, nested(16, cat(a, a)))
	back(t, nested(16, alt(cat(a, star(a)), a)))
	back(t, nested(16, nothing()))
	back(t, nested(15, alt(a, nothing())))
	x := a
	for range 17 {
		x = plus(x)
	}
	back(t, x)
}

// Fit has no limit for bytes: what is longer than Parse takes is written all the same.
func TestPrintOfLong(t *testing.T) {
	x := api.Rex{Op: api.RxSet}
	var want strings.Builder
	for n := 0x1000; want.Len() <= api.MaxSource; n += 2 {
		x.Set = append(x.Set, api.Runes{Lo: n, Hi: n})
		want.WriteRune(rune(n))
	}
	if got := Print(x); !Fit(x) || got != "["+want.String()+"]" {
		t.Errorf("%d bytes, not %d", len(got), want.Len()+2)
	}
	if _, f := Parse(Print(x)); f != (api.Fault{Err: api.ErrLong, At: api.MaxSource}) {
		t.Errorf("Parse: %v", f)
	}
}

// drawn is a fit expression by a seed, which moves on.
func drawn(seed *int, depth int) api.Rex {
	*seed = (*seed*1103515245 + 12345) & 0x7fffffff
	n := *seed >> 8
	if depth == 0 || n%5 == 0 {
		return [...]api.Rex{nothing(), one(n % 0xD800), in('a', 'c', 'e', 'e'), dot(), in(n%99, n%99+n%7), in('-', '-', '[', '^')}[n/5%6]
	}
	sub := func() api.Rex { return drawn(seed, depth-1) }
	switch n % 5 {
	case 1:
		return [...]func(api.Rex) api.Rex{star, plus, opt}[n/5%3](sub())
	case 2:
		return cat(sub(), sub())
	case 3:
		return alt(sub(), sub(), sub())
	}
	return alt(sub(), cat(sub(), sub(), sub()))
}

func TestThereAndBackOfDrawn(t *testing.T) {
	seed := 7
	for n := range 3000 {
		x := drawn(&seed, 1+n%4)
		if Fit(x) {
			back(t, x)
		}
	}
}

// What Parse tells is fit, and read again as it was, for every text of few signs.
func TestWhatIsReadIsFit(t *testing.T) {
	for _, s := range sample.Texts([]string{"a", "(", ")", "[", "]", "*", "?", "|", `\`, ".", "-", "^", "d", "€"}, 4) {
		if x, f := Parse(s); f.Err == api.OK {
			back(t, x)
		}
	}
}
