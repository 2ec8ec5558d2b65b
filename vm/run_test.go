package vm

import (
	"strconv"
	"strings"
	"testing"

	"bramble/api"
	"bramble/sample"
)

// told is what Run tells.
type told struct {
	bytes, state, seen int
}

func run(p []api.Ins, s string, at, state int) told {
	n, end, seen := Run(p, s, at, state)
	return told{n, end, seen}
}

func TestRunTold(t *testing.T) {
	const as = "char 97 97 3; goto 0; no; yes"
	for _, c := range []struct {
		p, s      string
		at, state int
		want      told
	}{
		{as, "aab", 0, 0, told{2, 0, 3}},
		{as, "b", 0, 0, told{-1, 0, 1}},
		{as, "", 0, 9, told{-1, 9, 1}},
		{as, "aa", 0, 9, told{2, 9, 3}},
		{as, "aab", 1, 0, told{1, 0, 2}},
		{as, "aab", 2, 0, told{-1, 0, 1}},
		{as, "aab", 3, 4, told{-1, 4, 1}},
		{as, "aab", -1, 4, told{-1, 0, 0}},
		{as, "aab", 4, 4, told{-1, 0, 0}},
		{as, "aab", most, 4, told{-1, 0, 0}},
		{as, "aab", least, 4, told{-1, 0, 0}},
		{as, "", 1, 4, told{-1, 0, 0}},
		{"yes", "abc", 0, 3, told{-1, 3, 0}},
		{"set 5; yes", "abc", 0, 3, told{-1, 3, 0}},
		{"no", "abc", 0, 3, told{-1, 3, 0}},
		{"set 5; no", "abc", 0, 3, told{-1, 3, 0}},
		{"goto 1", "abc", 0, 3, told{-1, 3, 0}},
		{"set 7", "abc", 0, 3, told{-1, 3, 0}},
		{"char 0 255 1; set 7", "abc", 0, 3, told{-1, 3, 1}},
		{"char 0 255 1", "", 0, 3, told{-1, 3, 1}},
		{"char 0 255 0; set 7; yes", "abc", 0, 3, told{1, 7, 1}},
		{"char 0 255 2; set 7; yes", "", 0, 3, told{-1, 3, 1}},
		{"char 0 255 4; char 98 98 3; no; yes", "ac", 0, 3, told{1, 3, 2}},
		{"char 0 255 4; char 98 98 3; no; yes", "ab", 0, 3, told{-1, 3, 2}},
		{"char 0 255 4; char 98 98 3; no; yes", "a", 0, 3, told{1, 3, 2}},
		{"char 128 255 2; yes", "\x7f", 0, 0, told{-1, 0, 1}},
		{"char 128 255 2; yes", "\x80", 0, 0, told{1, 0, 1}},
		{"char 128 255 2; yes", "\xff", 0, 0, told{1, 0, 1}},
		{"char 0 0 2; yes", "\x00", 0, 0, told{1, 0, 1}},
		{"char 0 0 2; yes", "", 0, 0, told{-1, 0, 1}},
		{"is 3 4; char 97 97 4; yes; no; no", "a", 0, 3, told{1, 3, 1}},
		{"is 3 4; char 97 97 4; yes; no; no", "a", 0, 4, told{-1, 4, 0}},
		{"is 3 1; char 97 97 4; yes; no; no", "a", 0, 4, told{1, 4, 1}},
		{"add 255; char 97 97 3; yes; no", "a", 0, 0, told{1, 255, 1}},
		{"add 255; char 97 97 3; yes; no", "a", 0, 1, told{1, 0, 1}},
		{"add 200; add 200; char 97 97 4; yes; no", "a", 0, 200, told{1, 88, 1}},
		{"add 0; char 97 97 3; yes; no", "a", 0, 255, told{1, 255, 1}},
		{"char 97 97 4; char 98 98 0; char 99 99 5; yes; no", "aabc", 0, 0, told{4, 0, 4}},
		{"char 97 97 4; char 98 98 0; char 99 99 5; yes; no", "aababc", 0, 0, told{-1, 0, 4}},
		{"char 97 97 1; char 98 98 0; yes", "aaab", 0, 0, told{4, 0, 4}},
	} {
		if got := run(read(t, c.p), c.s, c.at, c.state); got != c.want {
			t.Errorf("%q on %q from %d in %d: %v, not %v", c.p, c.s, c.at, c.state, got, c.want)
		}
	}
}

// TestRunStates: a state is taken modulo 256, from 0 on.
func TestRunStates(t *testing.T) {
	token, nothing := read(t, "char 97 97 2; yes"), read(t, "set 9; no")
	for _, c := range [][2]int{
		{0, 0}, {1, 1}, {255, 255}, {256, 0}, {257, 1}, {511, 255}, {512, 0},
		{-1, 255}, {-2, 254}, {-255, 1}, {-256, 0}, {-257, 255}, {most, 255}, {least, 0}, {least + 1, 1}, {most - 255, 0},
	} {
		if got, want := run(token, "a", 0, c[0]), (told{1, c[1], 1}); got != want {
			t.Errorf("a token in state %d: %v, not %v", c[0], got, want)
		}
		if got, want := run(nothing, "a", 0, c[0]), (told{-1, c[1], 0}); got != want {
			t.Errorf("no token in state %d: %v, not %v", c[0], got, want)
		}
		is := read(t, "is "+strconv.Itoa(c[1])+" 3; char 97 97 3; yes")
		if got, want := run(is, "a", 0, c[0]), (told{1, c[1], 1}); got != want {
			t.Errorf("asked for in state %d: %v, not %v", c[0], got, want)
		}
	}
}

// TestRunAdds: each number added to each state.
func TestRunAdds(t *testing.T) {
	for x := range 256 {
		p := read(t, "add "+strconv.Itoa(x)+"; char 97 97 3; yes")
		for state := range 256 {
			if got, want := run(p, "a", 0, state), (told{1, (state + x) % 256, 1}); got != want {
				t.Fatalf("%d added to %d: %v, not %v", x, state, got, want)
			}
		}
	}
}

// TestRunBytes: each byte held against ranges.
func TestRunBytes(t *testing.T) {
	for _, r := range [][2]int{{0, 0}, {0, 255}, {255, 255}, {97, 122}, {127, 128}, {0, 127}, {128, 255}} {
		p := read(t, "char "+strconv.Itoa(r[0])+" "+strconv.Itoa(r[1])+" 2; yes")
		for c := range 256 {
			want := told{-1, 0, 1}
			if r[0] <= c && c <= r[1] {
				want.bytes = 1
			}
			if got := run(p, string([]byte{byte(c)}), 0, 0); got != want {
				t.Fatalf("byte %d from %d to %d: %v, not %v", c, r[0], r[1], got, want)
			}
		}
	}
}

// TestRunFuel: just MaxFuel operations are run.
func TestRunFuel(t *testing.T) {
	const pairs = api.MaxFuel / 2
	even := read(t, "char 97 97 2; goto 0; yes")       // 2 operations a byte, and 2 more
	odd := read(t, "set 8; char 97 97 3; goto 1; yes") // one more
	for _, c := range []struct {
		name string
		p    []api.Ins
		n    int
		want told
	}{
		{"9998", even, pairs - 2, told{pairs - 2, 3, pairs - 1}},
		{"9999", odd, pairs - 2, told{pairs - 2, 8, pairs - 1}},
		{"10000", even, pairs - 1, told{pairs - 1, 3, pairs}},
		{"10001", odd, pairs - 1, told{-1, 3, pairs}},
		{"10002", even, pairs, told{-1, 3, pairs}},
		{"10003", odd, pairs, told{-1, 3, pairs}},
		{"far more", even, 60000, told{-1, 3, pairs}},
		{"far more, by one more", odd, 60000, told{-1, 3, pairs}},
	} {
		if got := run(c.p, strings.Repeat("a", c.n), 0, 3); got != c.want {
			t.Errorf("%s operations: %v, not %v", c.name, got, c.want)
		}
	}
	for _, s := range []string{"goto 0", "add 1; goto 0", "set 1; is 0 0", "char 97 97 0", "is 0 0; is 1 0"} {
		if got := run(read(t, s), "b", 0, 3); got.bytes != -1 || got.state != 3 {
			t.Errorf("%q, which does not end: %v", s, got)
		}
	}
}

// oracle runs a program by its text. What comes to be as it has been before never ends.
func oracle(p []api.Ins, s string, state int) told {
	ops := strings.Split(Print(p), "; ")
	now, taken, seen := state, "", 0
	next := 0
	been := map[[3]int]int{}
	for step := 0; step < api.MaxFuel && next < len(ops); step++ {
		here := [3]int{next, now, len(taken)}
		if been[here] > 0 {
			break
		}
		been[here]++
		w := append(strings.Fields(ops[next]), "0", "0", "0")
		a, _ := strconv.Atoi(w[1])
		b, _ := strconv.Atoi(w[2])
		c, _ := strconv.Atoi(w[3])
		next++
		switch w[0] {
		case "char":
			rest := strings.TrimPrefix(s, taken)
			seen = max(seen, len(taken)+1)
			if rest == "" || rest[0] < byte(a) || byte(b) < rest[0] {
				next = c
			} else {
				taken += rest[:1]
			}
		case "is":
			if now != a {
				next = b
			}
		case "set":
			now = a
		case "add":
			now = (now + a) % 256
		case "goto":
			next = a
		case "no":
			return told{-1, state, seen}
		case "yes":
			if taken == "" {
				return told{-1, state, seen}
			}
			return told{len(taken), now, seen}
		}
	}
	return told{-1, state, seen}
}

// TestRunAllSmall holds all programs of one or two operations, on all texts of a few bytes, against the oracle, and what follows (P6.6).
func TestRunAllSmall(t *testing.T) {
	texts := sample.Texts([]string{"a", "b", "c"}, 2)
	for n := 1; n <= 2; n++ {
		for _, p := range programs(n) {
			for _, s := range texts {
				for _, state := range []int{0, 1} {
					holds(t, p, s, state)
				}
			}
		}
	}
}

// TestRunDrawn does so with longer programs.
func TestRunDrawn(t *testing.T) {
	seed := sample.Seed(6)
	for range 5000 {
		n := 3 + seed.Below(10)
		all := plain(n)
		var p []api.Ins
		for range n {
			p = append(p, all[seed.Below(len(all))])
		}
		var s strings.Builder
		for range seed.Below(8) {
			s.WriteByte("aaabbc"[seed.Below(6)])
		}
		holds(t, p, s.String(), seed.Below(3))
	}
}

// holds checks what Run tells of a text, alone and with others ahead and behind.
func holds(t *testing.T, p []api.Ins, s string, state int) {
	t.Helper()
	got := run(p, s, 0, state)
	if want := oracle(p, s, state); got != want {
		t.Fatalf("%q on %q in %d: %v, not %v", Print(p), s, state, got, want)
	}
	if got.bytes != -1 && (got.bytes < 1 || got.bytes > got.seen || got.bytes > len(s)) {
		t.Fatalf("%q on %q in %d: %v", Print(p), s, state, got)
	}
	for _, ahead := range []string{"a", "c", "ab", "\x00\xff"} {
		if again := run(p, ahead+s, len(ahead), state); again != got {
			t.Fatalf("%q on %q in %d: %v, behind %q: %v", Print(p), s, state, got, ahead, again)
		}
	}
	if got.seen > len(s) {
		return
	}
	for _, behind := range []string{"", "a", "b", "cc", "\x00"} {
		if again := run(p, s[:got.seen]+behind, 0, state); again != got {
			t.Fatalf("%q on %q in %d: %v, with %q behind: %v", Print(p), s, state, got, behind, again)
		}
	}
}

func TestRunUnfit(t *testing.T) {
	for name, p := range unfit() {
		for _, at := range []int{least, -1, 0, 1, 3, 4, most} {
			if got := run(p, "aab", at, 5); got != (told{-1, 0, 0}) {
				t.Errorf("%s: %v", name, got)
			}
		}
	}
}
