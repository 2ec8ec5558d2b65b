package rex

import (
	"strings"
	"testing"

	"bramble/api"
	"bramble/sample"
)

func TestPlainTold(t *testing.T) {
	for _, c := range []struct {
		s    string
		want api.Rex
	}{
		{"a", one('a')},
		{"ab", cat(one('a'), one('b'))},
		{"aaa", cat(one('a'), one('a'), one('a'))},
		{"é", one(0xE9)},
		{"aé€\U0001F333", cat(one('a'), one(0xE9), one(0x20AC), one(0x1F333))},
		{"\x00", one(0)},
		{"\n", one(10)},
		{"\ud7ff\ue000", cat(one(0xD7FF), one(0xE000))},
		{"\ufffd", one(0xFFFD)},
		{"\U0010ffff", one(0x10FFFF)},
		{`(a)*`, cat(one('('), one('a'), one(')'), one('*'))},
		{`\n`, cat(one('\\'), one('n'))},
		{".", one('.')},
		{strings.Repeat("a", 400), many(400, one('a'))},
		{strings.Repeat("€", 400), many(400, one(0x20AC))},
	} {
		got, err := Plain(c.s)
		if err != api.OK || !Same(got, c.want) || !Fit(got) {
			t.Errorf("Plain(%q) = %v, %v, not %v", c.s, got, err, c.want)
		}
	}
}

func TestPlainErrors(t *testing.T) {
	a400 := strings.Repeat("a", 400)
	for _, c := range []struct {
		s   string
		err api.Errno
	}{
		{"", api.ErrForm},
		{"\xff", api.ErrForm},
		{"a\xff", api.ErrForm},
		{"\xffa", api.ErrForm},
		{"a\xc3", api.ErrForm},
		{"\xc0\x80", api.ErrForm},
		{"\xed\xa0\x80", api.ErrForm},
		{"\xf4\x90\x80\x80", api.ErrForm},
		{"\ufffd\xff", api.ErrForm},
		{a400 + "a", api.ErrMany},
		{strings.Repeat("é", 401), api.ErrMany},
		{a400 + "\xff", api.ErrForm},
		{a400 + "a\xff", api.ErrForm},
		{strings.Repeat("a", 1<<17), api.ErrMany},
	} {
		if got, err := Plain(c.s); err != c.err || !Same(got, api.Rex{}) {
			t.Errorf("Plain of %d bytes, %.9q = %v, %v, not %v", len(c.s), c.s, got, err, c.err)
		}
	}
}

// The one text of a plain expression is the text it is of.
func TestPlainIsTheTextAlone(t *testing.T) {
	all := sample.Texts([]string{"a", "b", "(", "é", "\n"}, 3)
	for _, s := range all[1:] {
		x, err := Plain(s)
		if err != api.OK {
			t.Fatalf("Plain(%q): %v", s, err)
		}
		back(t, x)
		for _, other := range all {
			n, ok := Longest(x, other)
			if ok != strings.HasPrefix(other, s) || ok && n != len(s) {
				t.Fatalf("Longest(Plain(%q), %q) = %d, %v", s, other, n, ok)
			}
		}
	}
}
