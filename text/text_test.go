package text

import (
	"math"
	"slices"
	"strings"
	"testing"

	"bramble/api"
)

// texts is every text of at most n of the letters, the shorter ones first.
func texts(letters string, n int) []string {
	all := []string{""}
	for from := 0; n > 0; n-- {
		to := len(all)
		for _, s := range all[from:to] {
			for i := range len(letters) {
				all = append(all, s+letters[i:i+1])
			}
		}
		from = to
	}
	return all
}

// numbers is small ones on both sides of 0, and those where sums and differences wrap round.
func numbers() []int {
	l := []int{math.MinInt, math.MinInt + 1, math.MinInt / 2, math.MaxInt / 2, math.MaxInt - 1, math.MaxInt}
	for n := -3; n <= 7; n++ {
		l = append(l, n)
	}
	return l
}

// edits is all edits that fit a text (of few bytes), with each of the texts put in.
func edits(s string, put []string) []api.Edit {
	var l []api.Edit
	for at := 0; at <= len(s); at++ {
		for old := 0; at+old <= len(s); old++ {
			for _, t := range put {
				l = append(l, api.Edit{At: at, Old: old, Text: t})
			}
		}
	}
	return l
}

// points is all points of a text, in order, told byte by byte.
func points(s string) []api.Point {
	p := api.Point{}
	l := []api.Point{p}
	for i := range len(s) {
		if s[i] == 10 {
			p = api.Point{Row: p.Row + 1}
		} else {
			p.Col++
		}
		l = append(l, p)
	}
	return l
}

func TestPointAtTold(t *testing.T) {
	for _, c := range []struct {
		s    string
		at   int
		want api.Point
		err  api.Errno
	}{
		{"ab\nc", 3, api.Point{Row: 1, Col: 0}, api.OK},
		{"ab\nc", 2, api.Point{Row: 0, Col: 2}, api.OK},
		{"ab\nc", 4, api.Point{Row: 1, Col: 1}, api.OK},
		{"ab\n", 3, api.Point{Row: 1, Col: 0}, api.OK},
		{"\n\n\n", 2, api.Point{Row: 2, Col: 0}, api.OK},
		{"a\r\nb", 2, api.Point{Row: 0, Col: 2}, api.OK},
		{"ä\x00\xff", 4, api.Point{Row: 0, Col: 4}, api.OK},
		{"", 0, api.Point{}, api.OK},
		{"", 1, api.Point{}, api.ErrPlace},
		{"", -1, api.Point{}, api.ErrPlace},
		{"ab\nc", 5, api.Point{}, api.ErrPlace},
		{"ab\nc", -1, api.Point{}, api.ErrPlace},
		{"ab\nc", math.MaxInt, api.Point{}, api.ErrPlace},
		{"ab\nc", math.MinInt, api.Point{}, api.ErrPlace},
	} {
		if p, err := PointAt(c.s, c.at); p != c.want || err != c.err {
			t.Errorf("PointAt(%q, %d) = %v, %v; want %v, %v", c.s, c.at, p, err, c.want, c.err)
		}
	}
}

func TestOffsetTold(t *testing.T) {
	for _, c := range []struct {
		s    string
		p    api.Point
		want int
		err  api.Errno
	}{
		{"ab\nc", api.Point{Row: 1, Col: 0}, 3, api.OK},
		{"ab\nc", api.Point{Row: 0, Col: 2}, 2, api.OK},
		{"ab\nc", api.Point{Row: 1, Col: 1}, 4, api.OK},
		{"ab\n", api.Point{Row: 1, Col: 0}, 3, api.OK},
		{"", api.Point{}, 0, api.OK},
		{"ab\nc", api.Point{Row: 0, Col: 3}, 0, api.ErrPlace},
		{"ab\nc", api.Point{Row: 1, Col: 2}, 0, api.ErrPlace},
		{"ab\nc", api.Point{Row: 2, Col: 0}, 0, api.ErrPlace},
		{"ab\nc", api.Point{Row: -1, Col: 0}, 0, api.ErrPlace},
		{"ab\nc", api.Point{Row: 1, Col: -1}, 0, api.ErrPlace},
		{"ab\nc", api.Point{Row: math.MaxInt, Col: 0}, 0, api.ErrPlace},
		{"ab\nc", api.Point{Row: 1, Col: math.MaxInt}, 0, api.ErrPlace},
		{"ab\nc", api.Point{Row: math.MinInt, Col: math.MinInt}, 0, api.ErrPlace},
		{"", api.Point{Row: 0, Col: 1}, 0, api.ErrPlace},
		{"", api.Point{Row: 1, Col: 0}, 0, api.ErrPlace},
	} {
		if at, err := Offset(c.s, c.p); at != c.want || err != c.err {
			t.Errorf("Offset(%q, %v) = %d, %v; want %d, %v", c.s, c.p, at, err, c.want, c.err)
		}
	}
}

// P1.1, held against points told byte by byte.
func TestPointsOfSmallTexts(t *testing.T) {
	for _, s := range texts("a\n", 5) {
		want := points(s)
		for _, at := range numbers() {
			p, err := PointAt(s, at)
			if at < 0 || at > len(s) {
				if p != (api.Point{}) || err != api.ErrPlace {
					t.Errorf("PointAt(%q, %d) = %v, %v", s, at, p, err)
				}
			} else if p != want[at] || err != api.OK {
				t.Errorf("PointAt(%q, %d) = %v, %v; want %v", s, at, p, err, want[at])
			}
		}
		for _, row := range numbers() {
			for _, col := range numbers() {
				p := api.Point{Row: row, Col: col}
				at, err := Offset(s, p)
				if i := slices.Index(want, p); i < 0 {
					if at != 0 || err != api.ErrPlace {
						t.Errorf("Offset(%q, %v) = %d, %v; want ErrPlace", s, p, at, err)
					}
				} else if at != i || err != api.OK {
					t.Errorf("Offset(%q, %v) = %d, %v; want %d", s, p, at, err, i)
				}
			}
		}
	}
}

// P1.1: a text may be longer than MaxText.
func TestPointsOfLongTexts(t *testing.T) {
	s := strings.Repeat("abc\n", api.MaxText)
	for _, at := range []int{0, 3, 4, api.MaxText, api.MaxText + 1, len(s) - 1, len(s)} {
		want := api.Point{Row: at / 4, Col: at % 4}
		if p, err := PointAt(s, at); p != want || err != api.OK {
			t.Errorf("PointAt(long, %d) = %v, %v; want %v", at, p, err, want)
		}
		if back, err := Offset(s, want); back != at || err != api.OK {
			t.Errorf("Offset(long, %v) = %d, %v; want %d", want, back, err, at)
		}
	}
	if _, err := PointAt(s, len(s)+1); err != api.ErrPlace {
		t.Errorf("PointAt(long, behind its end): %v", err)
	}
}

func TestFitTold(t *testing.T) {
	full := strings.Repeat("x", api.MaxText)
	for _, c := range []struct {
		name string
		s    string
		e    api.Edit
		want api.Errno
	}{
		{"put in", "abc", api.Edit{At: 1, Old: 1, Text: "xy"}, api.OK},
		{"at the end", "abc", api.Edit{At: 3, Old: 0, Text: "d"}, api.OK},
		{"all of it", "abc", api.Edit{At: 0, Old: 3}, api.OK},
		{"nothing in nothing", "", api.Edit{}, api.OK},
		{"one byte too many", "abc", api.Edit{At: 2, Old: 2}, api.ErrPlace},
		{"behind the end", "abc", api.Edit{At: 4, Old: 0, Text: "d"}, api.ErrPlace},
		{"far behind the end", "", api.Edit{At: 9, Old: 0, Text: "x"}, api.ErrPlace},
		{"At below 0", "abc", api.Edit{At: -1, Old: 1}, api.ErrPlace},
		{"Old below 0", "abc", api.Edit{At: 2, Old: -1}, api.ErrPlace},
		{"great Old", "abc", api.Edit{At: 1, Old: math.MaxInt}, api.ErrPlace},
		{"great At", "abc", api.Edit{At: math.MaxInt, Old: 0}, api.ErrPlace},
		{"both great", "abc", api.Edit{At: math.MaxInt, Old: math.MaxInt}, api.ErrPlace},
		{"both least", "abc", api.Edit{At: math.MinInt, Old: math.MinInt}, api.ErrPlace},
		{"least Old", "abc", api.Edit{At: 0, Old: math.MinInt}, api.ErrPlace},
		{"just full", full[1:], api.Edit{At: 0, Old: 0, Text: "y"}, api.OK},
		{"one byte over", full, api.Edit{At: 7, Old: 0, Text: "y"}, api.ErrLong},
		{"two bytes over", full[1:], api.Edit{At: 0, Old: 0, Text: "yzz"}, api.ErrLong},
		{"full stays full", full, api.Edit{At: 7, Old: 1, Text: "y"}, api.OK},
		{"all at once, full", "", api.Edit{Text: full}, api.OK},
		{"all at once, over", "", api.Edit{Text: full + "x"}, api.ErrLong},
		{"too long as it is", full + "x", api.Edit{}, api.ErrLong},
		{"too long, cut to fit", full + "x", api.Edit{At: 0, Old: 1}, api.OK},
		{"too long, all replaced", full + full, api.Edit{At: 0, Old: 2 * api.MaxText, Text: full}, api.OK},
		{"the place is told first", full, api.Edit{At: api.MaxText, Old: 1, Text: "yy"}, api.ErrPlace},
		{"At below 0 is told first", full, api.Edit{At: -1, Old: 0, Text: "y"}, api.ErrPlace},
	} {
		if err := Fit(c.s, c.e); err != c.want {
			t.Errorf("%s: Fit = %v; want %v", c.name, err, c.want)
		}
		checkTold(t, c.name, c.s, c.e, c.want)
	}
}

// checkTold holds Apply, Undo and All to the error that Fit tells, and to what stands beside it.
func checkTold(t *testing.T, name, s string, e api.Edit, want api.Errno) {
	t.Helper()
	behind, u := s, api.Edit{}
	if want == api.OK {
		behind = s[:e.At] + e.Text + s[e.At+e.Old:]
		u = api.Edit{At: e.At, Old: len(e.Text), Text: s[e.At : e.At+e.Old]}
	}
	if got, err := Apply(s, e); got != behind || err != want {
		t.Errorf("%s: Apply: %d bytes, %v; want %d bytes, %v", name, len(got), err, len(behind), want)
	}
	if got, err := All(s, []api.Edit{e}); got != behind || err != want {
		t.Errorf("%s: All: %d bytes, %v; want %d bytes, %v", name, len(got), err, len(behind), want)
	}
	if got, err := Undo(s, e); got != u || err != want {
		t.Errorf("%s: Undo: %v; want %v", name, err, want)
	}
}

// P1.2, P1.3 of any numbers.
func TestEditsOfAnyNumbers(t *testing.T) {
	for _, s := range []string{"", "a", "ab\nc"} {
		for _, at := range numbers() {
			for _, old := range numbers() {
				e := api.Edit{At: at, Old: old, Text: "xy"}
				want := api.ErrPlace
				if at >= 0 && at <= len(s) && old >= 0 && old <= len(s) && at+old <= len(s) {
					want = api.OK
				}
				if err := Fit(s, e); err != want {
					t.Errorf("Fit(%q, %v) = %v; want %v", s, e, err, want)
				}
				checkTold(t, "any numbers", s, e, want)
			}
		}
	}
}

func TestApplyTold(t *testing.T) {
	for _, c := range []struct {
		s    string
		e    api.Edit
		want string
	}{
		{"abc", api.Edit{At: 1, Old: 1, Text: "xy"}, "axyc"},
		{"abc", api.Edit{At: 0, Old: 0, Text: "x"}, "xabc"},
		{"abc", api.Edit{At: 3, Old: 0, Text: "x"}, "abcx"},
		{"abc", api.Edit{At: 0, Old: 3}, ""},
		{"abc", api.Edit{At: 1, Old: 0}, "abc"},
		{"", api.Edit{Text: "\n"}, "\n"},
		{"ä", api.Edit{At: 1, Old: 1}, "\xc3"},
	} {
		if got, err := Apply(c.s, c.e); got != c.want || err != api.OK {
			t.Errorf("Apply(%q, %v) = %q, %v; want %q", c.s, c.e, got, err, c.want)
		}
	}
	if got, err := Apply("abc", api.Edit{At: 2, Old: 2, Text: "x"}); got != "abc" || err != api.ErrPlace {
		t.Errorf("Apply of an edit that does not fit: %q, %v", got, err)
	}
}

func TestUndoTold(t *testing.T) {
	for _, c := range []struct {
		s    string
		e    api.Edit
		want api.Edit
		err  api.Errno
	}{
		{"abc", api.Edit{At: 1, Old: 1, Text: "xy"}, api.Edit{At: 1, Old: 2, Text: "b"}, api.OK},
		{"abc", api.Edit{At: 3, Old: 0, Text: "x"}, api.Edit{At: 3, Old: 1}, api.OK},
		{"abc", api.Edit{At: 0, Old: 3}, api.Edit{At: 0, Old: 0, Text: "abc"}, api.OK},
		{"", api.Edit{}, api.Edit{}, api.OK},
		{"abc", api.Edit{At: 2, Old: 2, Text: "x"}, api.Edit{}, api.ErrPlace},
		{"abc", api.Edit{At: 1, Old: 1, Text: strings.Repeat("x", api.MaxText)}, api.Edit{}, api.ErrLong},
	} {
		if got, err := Undo(c.s, c.e); got != c.want || err != c.err {
			t.Errorf("Undo(%q, %d, %d) = %v, %v; want %v, %v", c.s, c.e.At, c.e.Old, got, err, c.want, c.err)
		}
	}
}

func TestMapTold(t *testing.T) {
	e := api.Edit{At: 2, Old: 3, Text: "x"}
	for _, c := range []struct {
		e    api.Edit
		at   int
		want int
		has  bool
	}{
		{e, 0, 0, true},
		{e, 1, 1, true},
		{e, 2, 0, false},
		{e, 4, 0, false},
		{e, 5, 3, true},
		{e, 6, 4, true},
		{e, -7, -7, true},
		{e, math.MinInt, math.MinInt, true},
		{e, math.MaxInt, math.MaxInt - 2, true},
		{api.Edit{At: 2, Text: "xyz"}, 1, 1, true},
		{api.Edit{At: 2, Text: "xyz"}, 2, 5, true},
		{api.Edit{At: 0, Old: 2}, 1, 0, false},
		{api.Edit{At: 0, Old: 2}, 2, 0, true},
		{api.Edit{}, 0, 0, true},
		{api.Edit{}, -1, -1, true},
		{api.Edit{Text: "xyz"}, math.MaxInt, math.MinInt + 2, true},
		{api.Edit{At: -1, Old: 2, Text: "x"}, 5, 0, false},
		{api.Edit{At: -1, Old: 2, Text: "x"}, -3, 0, false},
		{api.Edit{At: 2, Old: -1, Text: "x"}, 1, 0, false},
		{api.Edit{At: 2, Old: -1, Text: "x"}, 5, 0, false},
		{api.Edit{At: math.MinInt, Old: math.MinInt}, math.MaxInt, 0, false},
		{api.Edit{At: 1, Old: math.MaxInt}, 0, 0, true},
		{api.Edit{At: 1, Old: math.MaxInt}, 1, 0, false},
		{api.Edit{At: 1, Old: math.MaxInt}, math.MaxInt, 0, false},
		{api.Edit{At: 0, Old: math.MaxInt, Text: "xy"}, math.MaxInt, 2, true},
		{api.Edit{At: math.MaxInt, Old: math.MaxInt}, math.MaxInt - 1, math.MaxInt - 1, true},
		{api.Edit{At: math.MaxInt, Old: math.MaxInt}, math.MaxInt, 0, false},
		{api.Edit{At: math.MaxInt, Old: 0}, math.MaxInt, math.MaxInt, true},
	} {
		if got, has := Map(c.e, c.at); got != c.want || has != c.has {
			t.Errorf("Map(%v, %d) = %d, %v; want %d, %v", c.e, c.at, got, has, c.want, c.has)
		}
	}
}

func TestAllTold(t *testing.T) {
	full := strings.Repeat("x", api.MaxText)
	for _, c := range []struct {
		name string
		s    string
		l    []api.Edit
		want string
		err  api.Errno
	}{
		{"none", "abc", nil, "abc", api.OK},
		{"none of too long a text", full + "y", nil, full + "y", api.OK},
		{"in order", "abc", []api.Edit{{At: 1, Old: 1, Text: "xy"}, {At: 2, Old: 2, Text: "z"}}, "axz", api.OK},
		{"by the text behind the one ahead", "", []api.Edit{{Text: "abc"}, {At: 3, Text: "d"}}, "abcd", api.OK},
		{"the second one does not fit", "abc", []api.Edit{{At: 0, Old: 3}, {At: 1}}, "abc", api.ErrPlace},
		{"the first error", "abc", []api.Edit{{At: 0, Old: 3}, {Text: full + "x"}, {At: -1}}, "abc", api.ErrLong},
		{"the first error, the other way", "abc", []api.Edit{{At: -1}, {Text: full + "x"}}, "abc", api.ErrPlace},
		{"too long on the way", full, []api.Edit{{Text: "y"}, {At: 0, Old: 1}}, full, api.ErrLong},
		{"just full on the way", full, []api.Edit{{At: 0, Old: 1}, {At: 0, Text: "y"}}, "y" + full[1:], api.OK},
	} {
		given := slices.Clone(c.l)
		if got, err := All(c.s, c.l); got != c.want || err != c.err {
			t.Errorf("%s: All: %d bytes, %v; want %d bytes, %v", c.name, len(got), err, len(c.want), c.err)
		}
		if !slices.Equal(given, c.l) {
			t.Errorf("%s: All has changed what it was given", c.name)
		}
	}
}

func TestDiffTold(t *testing.T) {
	long := strings.Repeat("x", 2*api.MaxText)
	for _, c := range []struct {
		a, b string
		want api.Edit
	}{
		{"abcd", "abxd", api.Edit{At: 2, Old: 1, Text: "x"}},
		{"", "", api.Edit{}},
		{"abc", "abc", api.Edit{At: 3}},
		{"", "abc", api.Edit{Text: "abc"}},
		{"abc", "", api.Edit{Old: 3}},
		{"aa", "aaa", api.Edit{At: 2, Text: "a"}},
		{"aaa", "aa", api.Edit{At: 2, Old: 1}},
		{"abab", "ab", api.Edit{At: 2, Old: 2}},
		{"ab", "abab", api.Edit{At: 2, Text: "ab"}},
		{"abcab", "abab", api.Edit{At: 2, Old: 1}},
		{"xa", "ya", api.Edit{Old: 1, Text: "y"}},
		{"ab", "cd", api.Edit{Old: 2, Text: "cd"}},
		{"a\nb", "a\n\nb", api.Edit{At: 2, Text: "\n"}},
		{"ä", "ö", api.Edit{At: 1, Old: 1, Text: "\xb6"}},
		{long + "a" + long, long + "b" + long, api.Edit{At: len(long), Old: 1, Text: "b"}},
	} {
		if got := Diff(c.a, c.b); got != c.want {
			t.Errorf("Diff(%.9q, %.9q) = %v; want %v", c.a, c.b, got, c.want)
		}
	}
}

// P1.6: as many bytes as there can be are alike at the beginning, then as many as there can be at the end.
func TestDiffOfSmallTexts(t *testing.T) {
	all := texts("ab", 5)
	for _, a := range all {
		for _, b := range all {
			at, end, room := 0, 0, min(len(a), len(b))
			for n := 0; n <= room; n++ {
				if strings.HasPrefix(b, a[:n]) {
					at = n
				}
			}
			for n := 0; n <= room-at; n++ {
				if strings.HasSuffix(b, a[len(a)-n:]) {
					end = n
				}
			}
			want := api.Edit{At: at, Old: len(a) - end - at, Text: b[at : len(b)-end]}
			if got := Diff(a, b); got != want {
				t.Errorf("Diff(%q, %q) = %v; want %v", a, b, got, want)
			}
		}
	}
}

// P1.7: PointAt and Offset undo one another.
func TestPointsThereAndBack(t *testing.T) {
	for _, s := range texts("a\n", 6) {
		for at := 0; at <= len(s); at++ {
			p, err := PointAt(s, at)
			back, errBack := Offset(s, p)
			if back != at || err != api.OK || errBack != api.OK {
				t.Errorf("%q: %d is %v, %v; that is %d, %v", s, at, p, err, back, errBack)
			}
		}
		for row := range len(s) + 2 {
			for col := range len(s) + 2 {
				p := api.Point{Row: row, Col: col}
				at, err := Offset(s, p)
				if err != api.OK {
					continue
				}
				if back, err := PointAt(s, at); back != p || err != api.OK {
					t.Errorf("%q: %v is %d; that is %v, %v", s, p, at, back, err)
				}
			}
		}
	}
}

// P1.7: Apply of Undo undoes Apply.
func TestUndoUndoes(t *testing.T) {
	put := texts("b\n", 2)
	for _, s := range texts("ab", 4) {
		for _, e := range edits(s, put) {
			checkUndone(t, s, e)
		}
	}
	full := strings.Repeat("x", api.MaxText)
	checkUndone(t, full, api.Edit{At: 5, Old: api.MaxText - 5, Text: "y"})
	checkUndone(t, "", api.Edit{Text: full})
}

func checkUndone(t *testing.T, s string, e api.Edit) {
	t.Helper()
	u, errUndo := Undo(s, e)
	behind, errApply := Apply(s, e)
	back, errBack := Apply(behind, u)
	if back != s || errUndo != api.OK || errApply != api.OK || errBack != api.OK {
		t.Errorf("%.9q, {%d %d}: undone by %d, %d: %.9q (%v, %v, %v)", s, e.At, e.Old, u.At, u.Old, back, errUndo, errApply, errBack)
	}
	again, err := Undo(behind, u)
	if again != e || err != api.OK {
		t.Errorf("%.9q, {%d %d}: Undo of its Undo is another one (%v)", s, e.At, e.Old, err)
	}
}

// P1.7: Apply of Diff makes a b, if b is not too long.
func TestDiffMakesTheOther(t *testing.T) {
	all := append(texts("a\n", 4), "abcabc", "cabcab", "\xff\x00")
	full := strings.Repeat("x", api.MaxText)
	all = append(all, full, full+"x", full+"yy")
	for _, a := range all {
		for _, b := range all {
			want, errWant := b, api.OK
			if len(b) > api.MaxText {
				want, errWant = a, api.ErrLong
			}
			if got, err := Apply(a, Diff(a, b)); got != want || err != errWant {
				t.Errorf("from %.9q to %.9q: %.9q, %v; want %v", a, b, got, err, errWant)
			}
		}
	}
}

// P1.4, P1.8: a byte that Map has stays the byte it was, and in order; it has just those that are not taken out.
func TestMapKeepsBytes(t *testing.T) {
	put := texts("xy", 3)
	for _, s := range texts("ab", 5) {
		for _, e := range edits(s, put) {
			behind, err := Apply(s, e)
			if err != api.OK {
				t.Fatalf("Apply(%q, %v): %v", s, e, err)
			}
			last, had := -1, 0
			for at := range len(s) {
				to, has := Map(e, at)
				if !has {
					if to != 0 || at < e.At || at >= e.At+e.Old {
						t.Errorf("%q, %v: byte %d is not had, beside %d", s, e, at, to)
					}
					continue
				}
				had++
				if to <= last || to >= len(behind) || behind[to] != s[at] {
					t.Errorf("%q, %v: byte %d lies at %d of %q, behind %d", s, e, at, to, behind, last)
					continue
				}
				last = to
			}
			if had != len(s)-e.Old {
				t.Errorf("%q, %v: %d bytes are had", s, e, had)
			}
			if to, has := Map(e, len(s)); to != len(behind) || !has {
				t.Errorf("%q, %v: the end lies at %d, %v", s, e, to, has)
			}
		}
	}
}

// 0.1: no numbers make a call panic, and what is not there is told as 0.
func TestMapOfAnyNumbers(t *testing.T) {
	for _, at := range numbers() {
		for _, old := range numbers() {
			for _, x := range numbers() {
				to, has := Map(api.Edit{At: at, Old: old, Text: "xy"}, x)
				taken := at < 0 || old < 0 || x >= at && uint(x)-uint(at) < uint(old)
				if has == taken {
					t.Errorf("Map({%d %d}, %d): has it: %v", at, old, x, has)
				}
				want := x
				if taken {
					want = 0
				} else if x >= at {
					want = int(uint(x) - uint(old) + 2)
				}
				if to != want {
					t.Errorf("Map({%d %d}, %d) = %d; want %d", at, old, x, to, want)
				}
			}
		}
	}
}

// The rows of a text are one more than its bytes 10, and the iterator may be left at any of them.
func TestRows(t *testing.T) {
	for _, s := range texts("a\n", 5) {
		want := strings.Split(s, "\n")
		n := 0
		for i, r := range rows(s) {
			if i != n || i >= len(want) || s[r.from:r.to] != want[i] {
				t.Fatalf("%q: row %d is told as %d, %v", s, n, i, r)
			}
			n++
		}
		if n != len(want) {
			t.Errorf("%q: %d rows; want %d", s, n, len(want))
		}
		for stop := range want {
			for i := range rows(s) {
				if i == stop {
					break
				}
			}
		}
	}
}
