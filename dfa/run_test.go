package dfa

import (
	"strings"
	"testing"

	"bramble/api"
	"bramble/sample"
)

func TestRunTold(t *testing.T) {
	chapter := made(state(-1, [3]int{'a', 'a', 1}), state(0, [3]int{'b', 'b', 2}), state(0))
	loop := made(state(7, [3]int{0, 'a', 0}, [3]int{'b', 'b', 1}, [3]int{'d', 255, 0}), state(-1, [3]int{'b', 'b', 2}), state(3))
	for _, c := range []struct {
		d       api.Dfa
		s       string
		n, what int
		seen    int
	}{
		{chapter, "abb", 2, 0, 3},
		{chapter, "ab", 2, 0, 2},
		{chapter, "abbbbb", 2, 0, 3},
		{chapter, "a", 1, 0, 1},
		{chapter, "aa", 1, 0, 2},
		{chapter, "", 0, -1, 0},
		{chapter, "b", 0, -1, 1},
		{chapter, "ba", 0, -1, 1},
		{made(state(-1)), "", 0, -1, 0},
		{made(state(-1)), "ab", 0, -1, 1},
		{made(state(4)), "", 0, 4, 0},
		{made(state(4)), "ab", 0, 4, 1},
		{made(state(-1, [3]int{0, 255, 0})), "abc", 0, -1, 3},
		{loop, "", 0, 7, 0},
		{loop, "\x00a\xff\xfe", 4, 7, 4},
		{loop, "aac", 2, 7, 3},
		{loop, "aacaaaa", 2, 7, 3},
		{loop, "aab", 2, 7, 3},
		{loop, "aaba", 2, 7, 4},
		{loop, "aabb", 4, 3, 4},
		{loop, "aabba", 4, 3, 5},
		{loop, "aabbaa", 4, 3, 5},
		{loop, "c", 0, 7, 1},
		{loop, strings.Repeat("a", api.MaxText), api.MaxText, 7, api.MaxText},
	} {
		if n, what := Run(c.d, c.s); n != c.n || what != c.what {
			t.Errorf("Run on %.9q: %d, %d, not %d, %d", c.s, n, what, c.n, c.what)
		}
		if n := Seen(c.d, c.s); n != c.seen {
			t.Errorf("Seen of %.9q: %d, not %d", c.s, n, c.seen)
		}
	}
}

func TestRunByEachByte(t *testing.T) {
	d := made(state(-1, [3]int{0, 0, 0}, [3]int{9, 12, 1}, [3]int{13, 99, 2}, [3]int{200, 255, 3}), state(1), state(2), state(3))
	for c := range 256 {
		s := string([]byte{byte(c)})
		want := acceptOf(d, s)
		if _, what := Run(d, s); what != want {
			t.Errorf("byte %d: %d, not %d", c, what, want)
		}
	}
}

func TestRunOfAllSmall(t *testing.T) {
	texts := sample.Texts([]string{"a", "b", "c"}, 4)
	for _, d := range append(smalls(1, "ab"), smalls(2, "ab")...) {
		for _, s := range texts {
			far, what, seen := 0, -1, 0
			for n := range len(s) + 1 {
				if a := acceptOf(d, s[:n]); a >= 0 {
					far, what = n, a
				}
				if stateBehind(d, s[:n]) >= 0 {
					seen = n
				}
			}
			if seen < len(s) {
				seen++
			}
			if n, a := Run(d, s); n != far || a != what {
				t.Fatalf("Run of %v on %q: %d, %d, not %d, %d", d, s, n, a, far, what)
			}
			if n := Seen(d, s); n != seen {
				t.Fatalf("Seen of %v of %q: %d, not %d", d, s, n, seen)
			}
		}
	}
}

func TestRunNeedsNoMoreThanSeen(t *testing.T) {
	texts := sample.Texts([]string{"a", "b"}, 4)
	behind := sample.Texts([]string{"a", "b", "\xff"}, 2)
	ended := 0
	for _, d := range smalls(2, "ab") {
		for _, s := range texts {
			if stateBehind(d, s) >= 0 {
				continue
			}
			ended++
			seen := s[:Seen(d, s)]
			far, what := Run(d, s)
			for _, more := range behind {
				if n, a := Run(d, seen+more); n != far || a != what {
					t.Fatalf("Run of %v on %q: %d, %d; on %q: %d, %d", d, s, far, what, seen+more, n, a)
				}
			}
		}
	}
	if ended == 0 {
		t.Error("no machine has ended")
	}
}
