package diff

import (
	"math"
	"slices"
	"strings"
	"testing"

	"bramble/api"
	"bramble/sample"
)

const (
	least = math.MinInt
	most  = math.MaxInt
)

// P22.2: which byte a byte was.
func TestFrom(t *testing.T) {
	put := func(at, old int, text string) api.Edit { return api.Edit{At: at, Old: old, Text: text} }
	long := strings.Repeat("x", api.MaxText)
	for _, c := range []struct {
		what string
		l    []api.Edit
		at   int
		want int
	}{
		{"no edits", nil, 0, 0},
		{"no edits, far away", []api.Edit{}, most, most},
		{"no edits, below 0", nil, -1, -1},
		{"no edits, far below 0", []api.Edit{}, least, -1},
		{"just ahead of At", []api.Edit{put(3, 2, "xyz")}, 2, 2},
		{"at At", []api.Edit{put(3, 2, "xyz")}, 3, -1},
		{"the last byte put in", []api.Edit{put(3, 2, "xyz")}, 5, -1},
		{"just behind it", []api.Edit{put(3, 2, "xyz")}, 6, 5},
		{"farther behind", []api.Edit{put(3, 2, "xyz")}, 9, 8},
		{"ahead of all, put in at 0", []api.Edit{put(0, 0, "x")}, 0, -1},
		{"behind what was put in at 0", []api.Edit{put(0, 0, "x")}, 1, 0},
		{"below 0, put in at 0", []api.Edit{put(0, 0, "x")}, -1, -1},
		{"far below 0", []api.Edit{put(0, 0, "x")}, least, -1},
		{"nothing put in, ahead", []api.Edit{put(3, 2, "")}, 2, 2},
		{"nothing put in, at At", []api.Edit{put(3, 2, "")}, 3, 5},
		{"nothing put in, behind", []api.Edit{put(3, 2, "")}, 4, 6},
		{"nothing for nothing", []api.Edit{put(3, 0, "")}, 3, 3},
		{"nothing taken out, just behind", []api.Edit{put(3, 0, "xy")}, 5, 3},
		{"one for one", []api.Edit{put(3, 1, "x")}, 3, -1},
		{"one for one, behind", []api.Edit{put(3, 1, "x")}, 4, 4},
		{"less is put in", []api.Edit{put(0, 5, "x")}, 1, 5},
		{"a long text, its last byte", []api.Edit{put(1, 0, long)}, api.MaxText, -1},
		{"a long text, behind", []api.Edit{put(1, 0, long)}, api.MaxText + 1, 1},
		{"2 letters of 2 bytes, within", []api.Edit{put(0, 0, "éé")}, 3, -1},
		{"2 letters of 2 bytes, behind", []api.Edit{put(0, 0, "éé")}, 4, 0},

		{"At below 0", []api.Edit{put(-1, 0, "")}, 5, -1},
		{"Old below 0", []api.Edit{put(3, -1, "")}, 5, -1},
		{"Old below 0, ahead of At", []api.Edit{put(3, -1, "")}, 2, -1},
		{"At far below 0", []api.Edit{put(least, 0, "")}, 0, -1},
		{"Old far below 0", []api.Edit{put(0, least, "")}, 0, -1},
		{"At below 0 in the first", []api.Edit{put(-1, 0, ""), put(9, 0, "x"), put(9, 0, "x")}, 2, -1},
		{"At below 0 in the middle", []api.Edit{put(9, 0, "x"), put(-1, 0, ""), put(9, 0, "x")}, 2, -1},
		{"At below 0 in the last", []api.Edit{put(9, 0, "x"), put(9, 0, "x"), put(-1, 0, "")}, 2, -1},
		{"Old below 0 in the first", []api.Edit{put(0, -1, ""), put(9, 0, "x"), put(9, 0, "x")}, 2, -1},
		{"Old below 0 in the middle", []api.Edit{put(9, 0, "x"), put(0, -1, ""), put(9, 0, "x")}, 2, -1},
		{"Old below 0 in the last", []api.Edit{put(9, 0, "x"), put(9, 0, "x"), put(0, -1, "")}, 2, -1},
		{"none of them below 0", []api.Edit{put(9, 0, "x"), put(9, 0, "x"), put(0, 0, "")}, 2, 2},

		// abcdef, axbcdef, axbcyef: y stands for d, the x was put in.
		{"the later one behind, ahead of both", []api.Edit{put(1, 0, "x"), put(4, 1, "y")}, 0, 0},
		{"the later one behind, the first text", []api.Edit{put(1, 0, "x"), put(4, 1, "y")}, 1, -1},
		{"the later one behind, between", []api.Edit{put(1, 0, "x"), put(4, 1, "y")}, 3, 2},
		{"the later one behind, the second text", []api.Edit{put(1, 0, "x"), put(4, 1, "y")}, 4, -1},
		{"the later one behind, behind both", []api.Edit{put(1, 0, "x"), put(4, 1, "y")}, 5, 4},
		// abcdef, abcdxf, zzbcdxf.
		{"the later one ahead, its text", []api.Edit{put(4, 1, "x"), put(0, 1, "zz")}, 1, -1},
		{"the later one ahead, between", []api.Edit{put(4, 1, "x"), put(0, 1, "zz")}, 2, 1},
		{"the later one ahead, the first text", []api.Edit{put(4, 1, "x"), put(0, 1, "zz")}, 5, -1},
		{"the later one ahead, behind both", []api.Edit{put(4, 1, "x"), put(0, 1, "zz")}, 6, 5},
		// abc, awxyzc, awqzc.
		{"within the earlier one, ahead", []api.Edit{put(1, 1, "wxyz"), put(2, 2, "q")}, 0, 0},
		{"within the earlier one, its first byte", []api.Edit{put(1, 1, "wxyz"), put(2, 2, "q")}, 1, -1},
		{"within the earlier one, itself", []api.Edit{put(1, 1, "wxyz"), put(2, 2, "q")}, 2, -1},
		{"within the earlier one, its last byte", []api.Edit{put(1, 1, "wxyz"), put(2, 2, "q")}, 3, -1},
		{"within the earlier one, behind", []api.Edit{put(1, 1, "wxyz"), put(2, 2, "q")}, 4, 2},
		// abc, axbc, abc again: put in and taken out.
		{"put in and taken out", []api.Edit{put(1, 0, "x"), put(1, 1, "")}, 1, 1},
		{"taken out and put in again", []api.Edit{put(1, 1, ""), put(1, 0, "b")}, 1, -1},
		{"taken out and put in again, behind", []api.Edit{put(1, 1, ""), put(1, 0, "b")}, 2, 2},

		{"At far away", []api.Edit{put(most, 0, "")}, most - 1, most - 1},
		{"at an At far away", []api.Edit{put(most, 0, "")}, most, most},
		{"At and the text's length are the greatest number", []api.Edit{put(most-2, 0, "xy")}, most - 1, -1},
		{"just behind it", []api.Edit{put(most-2, 0, "xy")}, most, most - 2},
		{"At and the text's length wrap round", []api.Edit{put(most, 3, "xy")}, most, sum(most, -2, 3)},
		{"they wrap round, far below 0", []api.Edit{put(most, 0, "x")}, most, most - 1},
		{"they wrap round, ahead of At", []api.Edit{put(most, 0, "x")}, most - 1, most - 1},
		{"the byte wraps round", []api.Edit{put(0, most, "")}, 1, -1},
		{"the byte does just not wrap round", []api.Edit{put(0, most, "")}, 0, most},
		{"nor with a text ahead", []api.Edit{put(0, most, "x")}, 1, most},
		{"it wraps round with one more", []api.Edit{put(0, most, "x")}, 2, -1},
		{"it wraps round, and lies ahead of others", []api.Edit{put(0, 0, "x"), put(2, 5, ""), put(0, most, "")}, 1, -1},
		{"greatest numbers together", []api.Edit{put(most, most, "")}, most, -1},
		{"greatest numbers again and again", []api.Edit{put(0, most, "x"), put(0, most, "x")}, 1, -1},
	} {
		want, ok := max(c.want, 0), c.want >= 0
		if got, gotOk := From(c.l, c.at); got != want || gotOk != ok {
			t.Errorf("%s: %d, %v, not %d, %v", c.what, got, gotOk, want, ok)
		}
		holdFrom(t, c.l, c.at)
	}
}

// edits is every edit with such numbers and texts.
func edits(ats, olds []int, texts ...string) []api.Edit {
	var all []api.Edit
	for _, at := range ats {
		for _, old := range olds {
			for _, text := range texts {
				all = append(all, api.Edit{At: at, Old: old, Text: text})
			}
		}
	}
	return all
}

// P22.2: every one or two of many edits, every three of some, and none.
func TestFromOfEverySmallRow(t *testing.T) {
	near := []int{-1, 0, 1, 2, 3, 4, 5, 6, 7}
	far := []int{least, least + 1, -1, 0, 1, 3, most - 3, most - 2, most - 1, most}
	many := edits([]int{-1, 0, 1, 2, 3}, []int{-1, 0, 1, 2}, "", "x", "xy")
	great := edits(far, far, "", "x", "xyz")
	few := edits([]int{0, 1, 3}, []int{0, 2}, "", "x", "xyz")
	for _, at := range slices.Concat(near, far) {
		holdFrom(t, nil, at)
	}
	for _, at := range near {
		for _, a := range many {
			holdFrom(t, []api.Edit{a}, at)
			for _, b := range many {
				holdFrom(t, []api.Edit{a, b}, at)
			}
		}
		for _, a := range few {
			for _, b := range few {
				for _, c := range few {
					holdFrom(t, []api.Edit{a, b, c}, at)
				}
			}
		}
	}
	for _, at := range far {
		for _, a := range great {
			holdFrom(t, []api.Edit{a}, at)
			for _, b := range great {
				holdFrom(t, []api.Edit{a, b}, at)
			}
		}
	}
}

// drawnEdits is a row of edits, each of which a text of so many bytes has place for; and behind each byte of the text behind all stands which byte it was, -1 where it was put in.
func drawnEdits(seed *sample.Seed, size, many int) ([]api.Edit, []int) {
	was := make([]int, size)
	for at := range was {
		was[at] = at
	}
	var l []api.Edit
	for range many {
		at := seed.Below(len(was) + 1)
		old := seed.Below(min(4, len(was)-at+1))
		text := strings.Repeat("x", seed.Below(4))
		l = append(l, api.Edit{At: at, Old: old, Text: text})
		was = slices.Replace(was, at, at+old, slices.Repeat([]int{-1}, len(text))...)
	}
	return l, was
}

// P22.2: of edits that a text has place for, a byte is the one that it was, by making them one after another.
func TestFromIsWhatItWas(t *testing.T) {
	seed := sample.Seed(2202)
	in, kept := 0, 0
	for range 3000 {
		size := seed.Below(20)
		l, was := drawnEdits(&seed, size, seed.Below(7))
		for at, want := range was {
			got, ok := From(l, at)
			if ok != (want >= 0) || got != max(want, 0) {
				t.Fatalf("byte %d behind %v: %d, %v, not %d", at, l, got, ok, want)
			}
			if ok {
				kept++
			} else {
				in++
			}
		}
		for behind := range 3 {
			if got, ok := From(l, len(was)+behind); !ok || got != size+behind {
				t.Fatalf("behind all by %d, %v: %d, %v, not %d", behind, l, got, ok, size+behind)
			}
		}
	}
	if in < 5000 || kept < 5000 {
		t.Errorf("%d bytes put in, %d kept", in, kept)
	}
}
