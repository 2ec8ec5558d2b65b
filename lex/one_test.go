package lex

import (
	"math"
	"strings"
	"testing"

	"bramble/api"
	"bramble/gram"
	"bramble/sample"
)

// oneAt is what One tells.
func oneAt(x api.Lexer, s string, at, state int) [4]int {
	term, n, then, seen := One(x, s, at, state)
	return [4]int{term, n, then, seen}
}

// P13.2: the token at a place, edge by edge.
func TestOneTold(t *testing.T) {
	for _, c := range []struct {
		lines     string // with / between
		s         string
		at, state int
		want      [4]int
	}{
		// Places that are not there.
		{`rule r "a"`, "aa", -1, 3, [4]int{-1, 0, 0, 0}},
		{`rule r "a"`, "aa", 3, 3, [4]int{-1, 0, 0, 0}},
		{`rule r "a"`, "", 1, 3, [4]int{-1, 0, 0, 0}},
		{`rule r "a"`, "", -1, 3, [4]int{-1, 0, 0, 0}},
		{`rule r "a"`, "aa", math.MinInt, 3, [4]int{-1, 0, 0, 0}},
		{`rule r "a"`, "aa", math.MaxInt, 3, [4]int{-1, 0, 0, 0}},
		// The text's end.
		{`rule r "a"`, "aa", 2, 3, [4]int{-1, 0, 3, 3}},
		{`rule r "a"`, "", 0, 3, [4]int{-1, 0, 3, 1}},
		{`rule r `, "aa", 2, 0, [4]int{-1, 0, 0, 3}},
		{`rule r `, "", 0, 0, [4]int{-1, 0, 0, 1}},
		{`scan t ` + as + `/rule r t`, "aa", 2, 9, [4]int{-1, 0, 9, 3}},
		{`scan t no/rule r t`, "aa", 2, 9, [4]int{-1, 0, 9, 3}},
		{`scan t char 0 255 2; yes; no/rule r t`, "aa", 2, 9, [4]int{-1, 0, 9, 3}},
		{`scan t char 0 0 2; yes; no/rule r t`, "", 0, 9, [4]int{-1, 0, 9, 1}},
		{`scan t char 0 0 2; goto 0; yes/rule r t`, "\x00\x00", 0, 9, [4]int{0, 2, 9, 3}},
		// The machine alone.
		{`rule r "a"`, "aa", 0, 0, [4]int{0, 1, 0, 2}},
		{`rule r "a"`, "aa", 1, 0, [4]int{0, 1, 0, 3}},
		{`rule r "a"`, "ab", 0, 7, [4]int{0, 1, 7, 2}},
		{`rule r "a"`, "ab", 1, 7, [4]int{-1, 0, 7, 2}},
		{`rule r "a"`, "a\x00", 0, 7, [4]int{0, 1, 7, 2}},
		{`rule r "a" "ab"`, "abc", 0, 0, [4]int{1, 2, 0, 3}},
		{`rule r "ab" "a"`, "abc", 0, 0, [4]int{0, 2, 0, 3}},
		{`rule r "a" "abcd"`, "abce", 0, 0, [4]int{0, 1, 0, 4}},
		{`rule r "a" "abcd"`, "abc", 0, 0, [4]int{0, 1, 0, 4}},
		{`rule r "abcd"`, "abce", 0, 5, [4]int{-1, 0, 5, 4}},
		{`rule r "abcd"`, "abc", 0, 5, [4]int{-1, 0, 5, 4}},
		{`rule r "abcd"`, "abcd", 0, 5, [4]int{0, 4, 5, 5}},
		{`rule r "abcd"`, "aabcd", 1, 5, [4]int{0, 4, 5, 6}},
		// All of the rest: 1 more, whether the machine goes along a byte 0 or not.
		{`token t a+/rule r t`, "aaa", 0, 0, [4]int{0, 3, 0, 4}},
		{`token t a+/rule r t`, "aaa", 2, 0, [4]int{0, 1, 0, 4}},
		{`token t a+/rule r t`, "aab", 0, 0, [4]int{0, 2, 0, 3}},
		{`token t [^b]+/rule r t`, "aaa", 0, 0, [4]int{0, 3, 0, 4}},
		{`token t [^b]+/rule r t`, "a\x00", 0, 0, [4]int{0, 2, 0, 3}},
		{`token t [^b]+/rule r t`, "a\x00b", 0, 0, [4]int{0, 2, 0, 3}},
		{`token t a(c*b)?/rule r t`, "acccc", 0, 0, [4]int{0, 1, 0, 6}},
		{`token t a(c*b)?/rule r t`, "accccd", 0, 0, [4]int{0, 1, 0, 6}},
		{`token t a(c*b)?/rule r t`, "accccdd", 0, 0, [4]int{0, 1, 0, 6}},
		{`token t a(c*b)?/rule r t`, "accccbd", 0, 0, [4]int{0, 6, 0, 7}},
		{`token t a(c*b)?/rule r t`, "ccccb", 0, 0, [4]int{-1, 0, 0, 1}},
		{`token t c*b/rule r t`, "cccc", 0, 0, [4]int{-1, 0, 0, 5}},
		// Letters of more bytes.
		{`token t é/rule r t`, "é", 0, 0, [4]int{0, 2, 0, 3}},
		{`token t é/rule r t`, "é", 1, 0, [4]int{-1, 0, 0, 2}},
		{`token t é/rule r t`, "\xc3", 0, 0, [4]int{-1, 0, 0, 2}},
		{`token t é/rule r t`, "\xc3a", 0, 0, [4]int{-1, 0, 0, 2}},
		// No terminal at all.
		{`rule r `, "aa", 0, 258, [4]int{-1, 0, 2, 1}},
		// Scanners ahead of the machine.
		{`scan t ` + early + `/token u a+/rule r t u`, "aaa", 0, 0, [4]int{0, 1, 0, 1}},
		{`scan t ` + early + `/token u [ab]+/rule r t u`, "baa", 0, 0, [4]int{1, 3, 0, 4}},
		{`token u a+/scan t ` + early + `/rule r t u`, "aaa", 1, 0, [4]int{1, 1, 0, 2}},
		{`scan t ` + early + `/rule r t "aaa"`, "aaa", 0, 0, [4]int{1, 1, 0, 1}},
		{`scan t ` + as + `/rule r t "aaa"`, "aaa", 0, 0, [4]int{1, 3, 0, 4}},
		{`scan t ` + as + `/rule r t "aaa"`, "aab", 0, 0, [4]int{1, 2, 0, 3}},
		// The first scanner finds none, the second one does: the greatest of what both have looked at.
		{`scan t ` + aab + `/scan u ` + early + `/rule r t u`, "aaa", 0, 0, [4]int{1, 1, 0, 3}},
		{`scan t ` + aab + `/scan u ` + early + `/rule r t u`, "aab", 0, 0, [4]int{0, 3, 0, 3}},
		{`scan t ` + aab + `/scan u ` + early + `/rule r t u`, "a", 0, 0, [4]int{1, 1, 0, 2}},
		{`scan u ` + early + `/scan t ` + aab + `/rule r t u`, "aab", 0, 0, [4]int{0, 1, 0, 1}},
		{`scan t ` + early + `/scan u ` + as + `/rule r t u`, "baa", 0, 0, [4]int{-1, 0, 0, 1}},
		// Neither does, but both have looked.
		{`scan t ` + aab + `/scan u ` + curious + `/token v [ab]/rule r v`, "aaab", 0, 0, [4]int{2, 1, 0, 3}},
		{`scan t ` + aab + `/scan u ` + curious + `/token v [ab]/rule r v`, "bba", 0, 0, [4]int{2, 1, 0, 3}},
		{`scan t ` + aab + `/scan u ` + curious + `/token v [ab]+/rule r v`, "bbab", 0, 0, [4]int{2, 4, 0, 5}},
		{`scan t ` + aab + `/scan u ` + curious + `/rule r `, "bbbb", 1, 0, [4]int{-1, 0, 0, 4}},
		{`scan t ` + aab + `/scan u ` + curious + `/rule r `, "bbbb", 2, 0, [4]int{-1, 0, 0, 5}},
		// A scanner that finds nothing leaves the state, whatever it has set on its way.
		{`scan t set 9; char 97 97 4; char 97 97 4; yes; no/token u a/rule r t u`, "ab", 0, 4, [4]int{1, 1, 4, 2}},
		{`scan t set 9; char 97 97 4; char 97 97 4; yes; no/token u a/rule r t u`, "aa", 0, 4, [4]int{0, 2, 9, 2}},
		{`scan t set 9; no/scan u is 9 4; char 97 97 4; yes; no; no/rule r t u`, "aa", 0, 4, [4]int{-1, 0, 4, 1}},
		{`scan t set 9; no/scan u is 4 4; char 97 97 4; yes; no; no/rule r t u`, "aa", 0, 4, [4]int{1, 1, 4, 1}},
		// A token of no byte, and one that takes too long, are none.
		{`scan t set 9; yes/token u a/rule r t u`, "a", 0, 4, [4]int{1, 1, 4, 2}},
		{`scan t set 9; yes/rule r t`, "a", 1, 4, [4]int{-1, 0, 4, 2}},
		{`scan t char 97 97 1; goto 1/token u a/rule r t u`, "aab", 0, 4, [4]int{1, 1, 4, 2}},
		// States, modulo 256 from 0 on.
		{`scan t ` + opens + `/rule r t`, "((", 0, 254, [4]int{0, 1, 255, 1}},
		{`scan t ` + opens + `/rule r t`, "((", 0, 255, [4]int{0, 1, 0, 1}},
		{`scan t ` + opens + `/rule r t`, "((", 0, 256, [4]int{0, 1, 1, 1}},
		{`scan t ` + opens + `/rule r t`, "((", 0, -1, [4]int{0, 1, 0, 1}},
		{`scan t ` + opens + `/rule r t`, "((", 0, -2, [4]int{0, 1, 255, 1}},
		{`scan t ` + opens + `/rule r t`, "((", 0, -256, [4]int{0, 1, 1, 1}},
		{`scan t ` + opens + `/rule r t`, "((", 0, -257, [4]int{0, 1, 0, 1}},
		{`scan t ` + opens + `/rule r t`, "((", 0, math.MaxInt, [4]int{0, 1, 0, 1}},
		{`scan t ` + opens + `/rule r t`, "((", 0, math.MinInt, [4]int{0, 1, 1, 1}},
		{`scan t ` + opens + `/rule r "a"`, "a(", 0, -1, [4]int{0, 1, 255, 2}},
		{`scan t ` + opens + `/rule r "a"`, "b(", 0, 257, [4]int{-1, 0, 1, 1}},
		{`scan t ` + closes + `/rule r t`, "))", 0, 256, [4]int{-1, 0, 0, 1}},
		{`scan t ` + closes + `/rule r t`, "))", 0, -255, [4]int{0, 1, 0, 1}},
	} {
		x := made(t, strings.Split(c.lines, "/")...)
		if got := oneAt(x, c.s, c.at, c.state); got != c.want {
			t.Errorf("%s at %d of %q in %d: %v, not %v", c.lines, c.at, c.s, c.state, got, c.want)
		}
	}
}

// states is states of which some are the same modulo 256.
var states = [...]int{0, 1, 2, 200, 255, 256, 257, 511, 512, -1, -2, -56, -255, -256, -257, math.MaxInt, math.MinInt, math.MinInt + 1}

// holdOne fails where One tells otherwise than the chapter's words.
func holdOne(t *testing.T, g api.Gram, texts []string) {
	t.Helper()
	x, err := Make(g)
	if err != api.OK {
		t.Fatalf("%s: %v", gram.Print(g), err)
	}
	w := wordsOf(t, g)
	for i, s := range texts {
		for at := range len(s) + 1 {
			for j := range 3 {
				state := states[(i+7*j)%len(states)]
				if got, want := oneAt(x, s, at, state), w.one(s, at, state); got != want {
					t.Fatalf("%s at %d of %q in %d: %v, not %v", gram.Print(g), at, s, state, got, want)
				}
			}
		}
	}
}

func TestOneOfAllSmall(t *testing.T) {
	texts := sample.Texts([]string{"a", "b", "(", ")"}, 4)
	for _, g := range grammars(t) {
		holdOne(t, g, texts)
	}
}

func TestOneOfDrawn(t *testing.T) {
	seed := sample.Seed(131)
	parts := []string{"a", "b", "(", ")", "aab", "é", "\x00", "\xff"}
	for range 250 {
		g := drawnGram(t, &seed)
		var texts []string
		for range 10 {
			s := ""
			for range seed.Below(12) {
				s += parts[seed.Below(len(parts))]
			}
			texts = append(texts, s)
		}
		holdOne(t, g, texts)
	}
}

// P13.8: what stands behind the place up to which was looked, or whether anything does, plays no part.
func TestOneLooksNoFarther(t *testing.T) {
	tails := []string{"", "a", "b", "(", ")", "\x00", "ab", "aa"}
	seed := sample.Seed(138)
	all := grammars(t)
	for range 20 {
		all = append(all, drawnGram(t, &seed))
	}
	changed := 0
	for _, g := range all {
		x, err := Make(g)
		if err != api.OK {
			t.Fatalf("%s: %v", gram.Print(g), err)
		}
		for i, s := range sample.Texts([]string{"a", "b", "(", ")"}, 4) {
			for at := range len(s) + 1 {
				state := states[(i+at)%len(states)]
				told := oneAt(x, s, at, state)
				if told[3] > len(s) {
					continue
				}
				for _, tail := range tails {
					other := s[:told[3]] + tail
					if got := oneAt(x, other, at, state); got != told {
						t.Fatalf("%s at %d of %q in %d: %v, of %q %v", gram.Print(g), at, s, state, told, other, got)
					}
					changed++
				}
			}
		}
	}
	if changed < 100000 {
		t.Errorf("only %d texts were changed", changed)
	}
}

// What stands ahead of the place plays none either.
func TestOneLooksNotBack(t *testing.T) {
	for _, g := range grammars(t) {
		x, _ := Make(g)
		for i, s := range sample.Texts([]string{"a", "b", "(", ")"}, 4) {
			state := states[i%len(states)]
			alone := oneAt(x, s, 0, state)
			for _, ahead := range []string{"a", "b", "((", "aab", "\x00"} {
				moved := alone
				moved[3] += len(ahead)
				if got := oneAt(x, ahead+s, len(ahead), state); got != moved {
					t.Fatalf("%s: of %q behind %q in %d: %v, not %v", gram.Print(g), s, ahead, state, got, moved)
				}
			}
		}
	}
}
