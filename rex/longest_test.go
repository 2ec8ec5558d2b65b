package rex

import (
	"regexp"
	"strings"
	"testing"
	"unicode/utf8"

	"bramble/api"
	"bramble/sample"
)

// isText tells by the words of the chapter whether a text is one of an expression's.
func isText(x api.Rex, s string) bool {
	switch x.Op {
	case api.RxEmpty:
		return s == ""
	case api.RxSet:
		c, size := utf8.DecodeRuneInString(s)
		if s == "" || size != len(s) || c == utf8.RuneError && size == 1 {
			return false
		}
		for _, r := range x.Set {
			if r.Lo <= int(c) && int(c) <= r.Hi {
				return true
			}
		}
		return false
	case api.RxAlt:
		for _, sub := range x.Subs {
			if isText(sub, s) {
				return true
			}
		}
		return false
	case api.RxCat:
		if len(x.Subs) == 1 {
			return isText(x.Subs[0], s)
		}
		for n := range len(s) + 1 {
			if isText(x.Subs[0], s[:n]) && isText(cat(x.Subs[1:]...), s[n:]) {
				return true
			}
		}
		return false
	case api.RxOpt:
		return s == "" || isText(x.Subs[0], s)
	case api.RxPlus:
		return isText(x.Subs[0], s) || isText(star(x.Subs[0]), s) && s != ""
	}
	for n := 1; n <= len(s); n++ {
		if isText(x.Subs[0], s[:n]) && isText(x, s[n:]) {
			return true
		}
	}
	return s == ""
}

// longest is Longest, each beginning asked one by one.
func longest(x api.Rex, s string) (int, bool) {
	for n := len(s); n >= 0; n-- {
		if isText(x, s[:n]) {
			return n, true
		}
	}
	return 0, false
}

func TestLongestTold(t *testing.T) {
	for _, c := range []struct {
		x, s string
		want int
		ok   bool
	}{
		{"[a-c]+", "abcd", 3, true},
		{"[a-c]+", "d", 0, false},
		{"[a-c]+", "", 0, false},
		{"[a-c]*", "", 0, true},
		{"[a-c]*", "d", 0, true},
		{"", "", 0, true},
		{"", "a", 0, true},
		{"a", "", 0, false},
		{"a", "a", 1, true},
		{"a", "aa", 1, true},
		{"a", "b", 0, false},
		{"a|ab|abc", "abcd", 3, true},
		{"abc|ab|a", "abxx", 2, true},
		{"a?", "aa", 1, true},
		{"(ab)*", "ababa", 4, true},
		{"(ab)*a", "ababa", 5, true},
		{"a*ab", "aaab", 4, true},
		{"(a|ab)(c|bcd)", "abcd", 4, true},
		{"a(b|)c", "ac", 2, true},
		{"a(bc)?", "abx", 1, true},
		{"abc", "ab", 0, false},
		{"é+", "ééa", 4, true},
		{"é", "\xc3", 0, false},
		{"é", "\xc3a", 0, false},
		{".*", "aé€\U0001F333\nb", 10, true},
		{".*", "ab\xffc", 2, true},
		{".*", "ab\xc3", 2, true},
		{".*", "a\xed\xa0\x80", 1, true},
		{".", "\xc0\x80", 0, false},
		{".", "\ufffd", 3, true},
		{".", "\xff", 0, false},
		{"\ufffd", "\xff", 0, false},
		{"[^a]", "\x00", 1, true},
		{"[^a]", "\n", 1, true},
		{"[^a]*", "\ud7ff\ue000\U0010ffff", 10, true},
		{".", "\n", 0, false},
		{`\s+`, "\t\n\r \f", 4, true},
		{`\s+`, "\v", 0, false},
		{`\d+`, "0189a", 4, true},
		{`\d+`, "٣", 0, false},
		{`\w+`, "aZ_09-", 5, true},
		{`\w`, "é", 0, false},
		{"()*", "a", 0, true},
		{"()+", "a", 0, true},
		{"(|a)+b", "aab", 3, true},
		{"((a*)*)*b", "aaac", 0, false},
		{"((a?)+)?", "aaa", 3, true},
	} {
		x, f := Parse(c.x)
		if n, ok := Longest(x, c.s); n != c.want || ok != c.ok || f.Err != api.OK {
			t.Errorf("Longest(%q, %q) = %d, %v, not %d, %v", c.x, c.s, n, ok, c.want, c.ok)
		}
	}
}

func TestLongestOfAllSmall(t *testing.T) {
	all := sample.Texts([]string{"a", "b"}, 4)
	all = append(all, "c", "abc", "aé", "é", "\xff", "ab\xff", "a\xffb", "b\xc3", "\n", "\ufffd")
	for _, x := range smalls() {
		for _, s := range all {
			n, ok := Longest(x, s)
			if want, is := longest(x, s); n != want || ok != is {
				t.Fatalf("Longest(%s, %q) = %d, %v, not %d, %v", Print(x), s, n, ok, want, is)
			}
		}
	}
}

// What Print writes means the same in the library's expressions.
func TestLongestAsTheLibraryHasIt(t *testing.T) {
	for _, x := range smalls() {
		re := regexp.MustCompile(`\A(?:` + Print(x) + ")")
		re.Longest()
		for _, s := range sample.Texts([]string{"a", "b", "é", "("}, 3) {
			want := re.FindStringIndex(s)
			n, ok := Longest(x, s)
			if ok != (want != nil) || ok && n != want[1] {
				t.Fatalf("Longest(%s, %q) = %d, %v, not %v", Print(x), s, n, ok, want)
			}
		}
	}
}

func TestLongestOfDrawn(t *testing.T) {
	seed := 3
	all := []string{"", "a", "ab-", "ccea", "[^\n\n]", "-[\\]^aec", "\x00\x01\x02a", "é€\U0001F333", "aa\xff"}
	for n := range 2000 {
		x := drawn(&seed, 1+n%3)
		for _, s := range all {
			got, ok := Longest(x, s)
			if want, is := longest(x, s); got != want || ok != is {
				t.Fatalf("Longest(%s, %q) = %d, %v, not %d, %v", Print(x), s, got, ok, want, is)
			}
		}
	}
}

// A long text, with an expression that could be gone through in very many ways.
func TestLongestOfLong(t *testing.T) {
	x := star(alt(one('a'), cat(one('a'), one('a')), star(opt(one('a')))))
	for range 12 {
		x = star(x)
	}
	s := strings.Repeat("a", 20000)
	if n, ok := Longest(x, s+"b"+s); n != len(s) || !ok {
		t.Errorf("%d, %v", n, ok)
	}
	if n, ok := Longest(cat(many(200, opt(one('a'))), many(200, one('a'))), s); n != 400 || !ok {
		t.Errorf("%d, %v", n, ok)
	}
	if n, ok := Longest(cat(x, one('b')), s); n != 0 || ok {
		t.Errorf("%d, %v", n, ok)
	}
}

func TestEmptyTold(t *testing.T) {
	for _, c := range []struct {
		x    string
		want bool
	}{
		{"", true}, {"a", false}, {"a*", true}, {"a+", false}, {"a?", true}, {"()+", true}, {"(a*)+", true},
		{"ab", false}, {"a*b", false}, {"ab*", false}, {"a*b?", true}, {"a*b?()", true}, {"a*b?c", false},
		{"a|b", false}, {"a|", true}, {"|a", true}, {"a|b|c*", true}, {"(a|b?)(c+|)", true}, {"(a|b?)(c+|d)", false},
		{".", false}, {"[^a]", false}, {"(ab)*", true}, {"(ab)?", true}, {"(ab)+", false},
	} {
		x, f := Parse(c.x)
		if Empty(x) != c.want || f.Err != api.OK {
			t.Errorf("Empty(%q) is not %v", c.x, c.want)
		}
	}
}

func TestEmptyOfAllSmall(t *testing.T) {
	for _, x := range smalls() {
		_, ok := Longest(x, "")
		if want := isText(x, ""); Empty(x) != want || ok != want {
			t.Fatalf("Empty(%s) = %v, Longest %v, not %v", Print(x), Empty(x), ok, want)
		}
	}
}

func TestStarIsOptOfPlus(t *testing.T) {
	all := append(sample.Texts([]string{"a", "b"}, 4), "aé", "\xff", "b\xff")
	for _, x := range smalls() {
		for _, s := range all {
			n, ok := Longest(star(x), s)
			if m, is := Longest(opt(plus(x)), s); n != m || !ok || !is {
				t.Fatalf("%s of %q: %d, %v and %d, %v", Print(x), s, n, ok, m, is)
			}
		}
	}
}

func TestAltIsTheLongestPart(t *testing.T) {
	all := append(sample.Texts([]string{"a", "b"}, 3), "aé", "\xff", "b\xff")
	parts := grown([]api.Rex{nothing(), one('a'), in('a', 'b')})
	for _, x := range parts {
		for _, y := range parts {
			for _, s := range all {
				n, ok := Longest(x, s)
				m, is := Longest(y, s)
				if got, found := Longest(alt(x, y), s); got != max(n, m) || found != (ok || is) {
					t.Fatalf("%s of %q: %d, %v, not of %d, %v and %d, %v", Print(alt(x, y)), s, got, found, n, ok, m, is)
				}
			}
		}
	}
}
