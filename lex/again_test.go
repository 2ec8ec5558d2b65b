package lex

import (
	"math"
	"slices"
	"strings"
	"testing"

	"bramble/api"
	"bramble/gram"
	"bramble/sample"
	"bramble/text"
)

// P13.4: how many are kept, edge by edge.
func TestKeptTold(t *testing.T) {
	is := func(term, seen int) api.Piece { return api.Piece{Term: term, Seen: seen} }
	row := []api.Piece{is(0, 2), is(1, 5), is(2, 5), is(0, 8)}
	for _, c := range []struct {
		l    []api.Piece
		at   int
		want int
	}{
		{nil, 0, 0},
		{nil, 9, 0},
		{nil, -1, 0},
		{[]api.Piece{}, math.MaxInt, 0},
		{row, -1, 0},
		{row, 0, 0},
		{row, 1, 0},
		{row, 2, 1},
		{row, 3, 1},
		{row, 4, 1},
		{row, 5, 3},
		{row, 7, 3},
		{row, 8, 4},
		{row, 9, 4},
		{row, math.MaxInt, 4},
		{row, math.MinInt, 0},
		// One ahead has more.
		{[]api.Piece{is(0, 2), is(1, 9), is(2, 5), is(0, 8)}, 8, 1},
		{[]api.Piece{is(0, 9), is(1, 2), is(2, 3)}, 8, 0},
		{[]api.Piece{is(0, 9), is(1, 2), is(2, 3)}, 9, 3},
		{[]api.Piece{is(0, 2), is(1, 9), is(2, 5), is(0, 10), is(3, 1)}, 9, 3},
		// The last one kept is none.
		{[]api.Piece{is(-1, 2)}, 1, 0},
		{[]api.Piece{is(-1, 2)}, 2, 0},
		{[]api.Piece{is(-1, 2)}, 9, 0},
		{[]api.Piece{is(0, 1), is(-1, 2), is(0, 3)}, 1, 1},
		{[]api.Piece{is(0, 1), is(-1, 2), is(0, 3)}, 2, 1},
		{[]api.Piece{is(0, 1), is(-1, 2), is(0, 3)}, 3, 3},
		{[]api.Piece{is(0, 1), is(-1, 2), is(-1, 3)}, 3, 2},
		{[]api.Piece{is(0, 1), is(-2, 2)}, 3, 2},
		{[]api.Piece{is(0, 1), is(-1, 2), is(0, 9)}, 3, 1},
		{[]api.Piece{is(0, 1), is(0, 9), is(-1, 2)}, 3, 1},
		// Any numbers.
		{[]api.Piece{is(0, math.MinInt), is(0, math.MaxInt)}, math.MinInt, 1},
		{[]api.Piece{is(0, math.MinInt), is(0, math.MaxInt)}, math.MaxInt, 2},
		{[]api.Piece{is(0, -3), is(0, -2)}, -3, 1},
		{[]api.Piece{is(0, -3), is(0, -2)}, -4, 0},
	} {
		for _, e := range []api.Edit{{At: c.at}, {At: c.at, Old: 3}, {At: c.at, Old: math.MinInt, Text: "abc"}} {
			if got := Kept(c.l, e); got != c.want {
				t.Errorf("%s at %d: %d, not %d", shown(c.l), c.at, got, c.want)
			}
		}
	}
}

func TestKeptOfDrawn(t *testing.T) {
	seed := sample.Seed(134)
	for range 20000 {
		var l []api.Piece
		for range seed.Below(6) {
			l = append(l, api.Piece{Term: seed.Below(3) - 1, Seen: seed.Below(6)})
		}
		at := seed.Below(7)
		if got, want := Kept(l, api.Edit{At: at}), keptByWords(l, at); got != want {
			t.Fatalf("%s at %d: %d, not %d", shown(l), at, got, want)
		}
	}
}

// P13.5: the pieces behind an edit, edge by edge.
func TestAgainTold(t *testing.T) {
	words := `token w [a-z]+/skip s \s+/rule r "if" w`
	states := `scan t ` + turns + `/scan u is 7 3; char 97 122 3; yes; no/token v [a-z]+/rule r t`
	for _, c := range []struct {
		lines string
		s     string
		e     api.Edit
		want  string
	}{
		// At 0, at the end, all of it, nothing of it.
		{words, "if x", api.Edit{Text: "x"}, "1:0-3,0,4 2:3-4,0,5 1:4-5,0,6"},
		{words, "if x", api.Edit{Text: " "}, "2:0-1,0,2 0:1-3,0,4 2:3-4,0,5 1:4-5,0,6"},
		{words, "if x", api.Edit{At: 4, Text: "y"}, "0:0-2,0,3 2:2-3,0,4 1:3-5,0,6"},
		{words, "if x", api.Edit{At: 4, Text: " "}, "0:0-2,0,3 2:2-3,0,4 1:3-4,0,5 2:4-5,0,6"},
		{words, "if x", api.Edit{Old: 4}, ""},
		{words, "if x", api.Edit{Old: 4, Text: "if"}, "0:0-2,0,3"},
		{words, "", api.Edit{Text: "if"}, "0:0-2,0,3"},
		{words, "", api.Edit{}, ""},
		{words, "if x", api.Edit{At: 0}, "0:0-2,0,3 2:2-3,0,4 1:3-4,0,5"},
		{words, "if x", api.Edit{At: 2}, "0:0-2,0,3 2:2-3,0,4 1:3-4,0,5"},
		{words, "if x", api.Edit{At: 3}, "0:0-2,0,3 2:2-3,0,4 1:3-4,0,5"},
		{words, "if x", api.Edit{At: 4}, "0:0-2,0,3 2:2-3,0,4 1:3-4,0,5"},
		{words, "if x", api.Edit{At: 1, Old: 1, Text: "f"}, "0:0-2,0,3 2:2-3,0,4 1:3-4,0,5"},
		{words, "if x", api.Edit{At: 2, Old: 1}, "1:0-3,0,4"},
		{words, "if x", api.Edit{At: 2, Old: 2}, "0:0-2,0,3"},
		{words, "ifx y", api.Edit{At: 2, Text: " "}, "0:0-2,0,3 2:2-3,0,4 1:3-4,0,5 2:4-5,0,6 1:5-6,0,7"},
		{words, "ifx y", api.Edit{At: 2, Old: 1}, "0:0-2,0,3 2:2-3,0,4 1:3-4,0,5"},
		// Within bytes that are none, and where such pieces become one, or two.
		{words, "a???b", api.Edit{At: 2, Text: "?"}, "1:0-1,0,2 -1:1-5,0,5 1:5-6,0,7"},
		{words, "a???b", api.Edit{At: 2, Old: 1}, "1:0-1,0,2 -1:1-3,0,3 1:3-4,0,5"},
		{words, "a???b", api.Edit{At: 2, Old: 1, Text: "x"}, "1:0-1,0,2 -1:1-2,0,2 1:2-3,0,4 -1:3-4,0,4 1:4-5,0,6"},
		{words, "a??x??b", api.Edit{At: 3, Old: 1}, "1:0-1,0,2 -1:1-5,0,5 1:5-6,0,7"},
		{words, "a??x??b", api.Edit{At: 3, Old: 1, Text: "!"}, "1:0-1,0,2 -1:1-6,0,6 1:6-7,0,8"},
		{words, "??x??", api.Edit{At: 2, Old: 1}, "-1:0-4,0,4"},
		{words, "??", api.Edit{At: 2, Text: "?"}, "-1:0-3,0,3"},
		{words, "??", api.Edit{At: 0, Text: "?"}, "-1:0-3,0,3"},
		{words, "??", api.Edit{At: 1, Text: "a"}, "-1:0-1,0,1 1:1-2,0,3 -1:2-3,0,3"},
		{words, "?a", api.Edit{At: 1, Old: 1}, "-1:0-1,0,1"},
		{words, "?a?", api.Edit{At: 1, Old: 2, Text: "?"}, "-1:0-2,0,2"},
		// The state of all behind.
		{states, "ab!ab!ab", api.Edit{At: 2, Old: 1}, "2:0-4,0,5 0:4-5,7,5 1:5-6,7,6 1:6-7,7,7"},
		{states, "abab!ab", api.Edit{At: 2, Text: "!"}, "2:0-2,0,3 0:2-3,7,3 1:3-4,7,4 1:4-5,7,5 0:5-6,0,6 2:6-8,0,9"},
		{states, "!a?b", api.Edit{Old: 1}, "2:0-1,0,2 -1:1-2,0,2 2:2-3,0,4"},
		{states, "a?b", api.Edit{Text: "!"}, "0:0-1,7,1 1:1-2,7,2 -1:2-3,7,3 1:3-4,7,4"},
		{states, "a?b", api.Edit{Text: "!!"}, "0:0-1,7,1 0:1-2,0,2 2:2-3,0,4 -1:3-4,0,4 2:4-5,0,6"},
		// A scanner that looks no farther than its token: what is cut off right behind it.
		{`scan t ` + early + `/rule r t`, "aaa", api.Edit{At: 2, Old: 1}, "0:0-1,0,1 0:1-2,0,2"},
		{`scan t ` + early + `/rule r t`, "aaa", api.Edit{At: 1, Old: 1}, "0:0-1,0,1 0:1-2,0,2"},
		{`scan t ` + early + `/rule r t`, "aaa", api.Edit{At: 1, Old: 2}, "0:0-1,0,1"},
		{`scan t ` + early + `/rule r t`, "a", api.Edit{At: 1, Text: "b"}, "0:0-1,0,1 -1:1-2,0,2"},
		// What was looked at from far ahead.
		{`token t a(c*b)?/rule r t "c"`, "accc", api.Edit{At: 4, Text: "b"}, "1:0-5,0,6"},
		{`token t a(c*b)?/rule r t "c"`, "acccb", api.Edit{At: 4, Old: 1}, "1:0-1,0,5 0:1-2,0,3 0:2-3,0,4 0:3-4,0,5"},
		{`token t a(c*b)?/rule r t "c"`, "acccd", api.Edit{At: 4, Old: 1, Text: "e"}, "1:0-1,0,5 0:1-2,0,3 0:2-3,0,4 0:3-4,0,5 -1:4-5,0,5"},
	} {
		x := made(t, strings.Split(c.lines, "/")...)
		l, err := Again(x, c.s, All(x, c.s), c.e)
		if got := shown(l); err != api.OK || got != c.want {
			t.Errorf("%s, %q, %v: %s, %v, not %s", c.lines, c.s, c.e, got, err, c.want)
		}
		if c.want == "" && l != nil {
			t.Errorf("%q, %v: nothing has a list", c.s, c.e)
		}
	}
}

// An edit that can't be made.
func TestAgainOfNoEdit(t *testing.T) {
	x := made(t, `token w [a-z]+`, `rule r w`)
	long := strings.Repeat("ab ", 22000)
	for _, c := range []struct {
		s string
		e api.Edit
	}{
		{"abc", api.Edit{At: -1}},
		{"abc", api.Edit{At: 4}},
		{"abc", api.Edit{Old: -1}},
		{"abc", api.Edit{Old: 4}},
		{"abc", api.Edit{At: 3, Old: 1, Text: "x"}},
		{"abc", api.Edit{At: 1, Old: 3}},
		{"", api.Edit{At: 1}},
		{"", api.Edit{Old: 1}},
		{"abc", api.Edit{At: math.MaxInt, Old: math.MaxInt}},
		{"abc", api.Edit{At: math.MinInt, Old: math.MinInt}},
		{"abc", api.Edit{At: 1, Old: math.MaxInt}},
		{"abc", api.Edit{Text: strings.Repeat("x", api.MaxText-2)}},
		{"abc", api.Edit{At: -1, Text: strings.Repeat("x", api.MaxText)}},
		{long, api.Edit{}},
		{long, api.Edit{Old: len(long) - api.MaxText - 1}},
		{long, api.Edit{At: len(long) + 1}},
	} {
		want := text.Fit(c.s, c.e)
		if want == api.OK {
			t.Fatalf("%.9q, %d, %d: it can be made", c.s, c.e.At, c.e.Old)
		}
		if l, err := Again(x, c.s, All(x, c.s), c.e); err != want || l != nil {
			t.Errorf("%.9q, %d, %d: %d pieces, %v, not %v", c.s, c.e.At, c.e.Old, len(l), err, want)
		}
	}
	if l, err := Again(x, long, All(x, long), api.Edit{Old: len(long) - api.MaxText}); err != api.OK || !slices.Equal(l, All(x, long[len(long)-api.MaxText:])) {
		t.Errorf("%d pieces, %v, of a text that becomes short enough", len(l), err)
	}
}

// holdAgain fails where Again tells otherwise than All of the text behind (P13.5), or what is kept is not the first of that (P13.7).
func holdAgain(t *testing.T, what string, x api.Lexer, s string, l []api.Piece, e api.Edit) {
	t.Helper()
	behind, err := text.Apply(s, e)
	want := All(x, behind)
	if err != api.OK {
		want = nil
	}
	got, told := Again(x, s, l, e)
	if told != err || !slices.Equal(got, want) {
		t.Fatalf("%s, %.40q, %d, %d, %.40q: %.200s, %v, not %.200s, %v", what, s, e.At, e.Old, e.Text, shown(got), told, shown(want), err)
	}
	if many := Kept(l, e); err == api.OK && (many > len(want) || !slices.Equal(l[:many], want[:many])) {
		t.Fatalf("%s, %.40q, %d, %d, %.40q: %d are kept of %.200s, but there is %.200s", what, s, e.At, e.Old, e.Text, many, shown(l), shown(want))
	}
}

// Every edit of every small text.
func TestAgainOfAllSmall(t *testing.T) {
	texts := sample.Texts([]string{"a", "b", "(", ")"}, 4)
	puts := sample.Texts([]string{"a", "b", "(", ")"}, 1)
	puts = append(puts, "ab", "aa", "((", "ba)")
	for _, g := range grammars(t) {
		x, err := Make(g)
		if err != api.OK {
			t.Fatalf("%s: %v", gram.Print(g), err)
		}
		what := gram.Print(g)
		for _, s := range texts {
			l := All(x, s)
			for at := range len(s) + 1 {
				for old := range len(s) - at + 1 {
					for _, put := range puts {
						holdAgain(t, what, x, s, l, api.Edit{At: at, Old: old, Text: put})
					}
				}
			}
		}
	}
}

// Drawn grammars, and edits one behind another, each on what was told of the one ahead.
func TestAgainOfDrawn(t *testing.T) {
	seed := sample.Seed(135)
	parts := []string{"a", "b", "(", ")", "aab", "(a", "é", "\x00", "\xff", "aa", "bb", "))"}
	drawn := func(many int) string {
		s := ""
		for range seed.Below(many) {
			s += parts[seed.Below(len(parts))]
		}
		return s
	}
	errs := 0
	for range 200 {
		g := drawnGram(t, &seed)
		x, err := Make(g)
		if err != api.OK {
			t.Fatalf("%s: %v", gram.Print(g), err)
		}
		what := gram.Print(g)
		s := drawn(20)
		l := All(x, s)
		for range 20 {
			e := api.Edit{At: seed.Below(len(s)+3) - 1, Old: seed.Below(5), Text: drawn(4)}
			holdAgain(t, what, x, s, l, e)
			again, err := Again(x, s, l, e)
			if err != api.OK {
				errs++
				continue
			}
			l = again
			s, _ = text.Apply(s, e)
		}
	}
	if errs < 100 || errs > 2000 {
		t.Errorf("%d edits that can't be made", errs)
	}
}

// Only what an edit can change is looked at anew: marks on pieces ahead of it, and behind where the old ones come again, are still there.
func TestAgainTakesTheOldOnes(t *testing.T) {
	x := made(t, `token w [a-z]+`, `skip s \s+`, `rule r "if" w`)
	const s = "aa bb cc dd ee ff"
	for _, c := range []struct {
		e          api.Edit
		gone, anew int // pieces
	}{
		{api.Edit{At: 7, Text: "x"}, 1, 1},
		{api.Edit{At: 7}, 1, 1},
		{api.Edit{At: 7, Text: " "}, 1, 3},
		{api.Edit{At: 6, Old: 3}, 3, 1},
		{api.Edit{At: 6, Old: 3, Text: "if "}, 3, 3},
		{api.Edit{Text: "x"}, 1, 1},
		{api.Edit{At: len(s), Text: "x"}, 1, 1},
	} {
		l := All(x, s)
		for i := range l {
			l[i].Term += 100
		}
		got, err := Again(x, s, l, c.e)
		marks := 0
		for _, p := range got {
			if p.Term >= 100 {
				marks++
			}
		}
		if err != api.OK || marks != len(l)-c.gone || len(got) != marks+c.anew {
			t.Errorf("%v: %s, %v", c.e, shown(got), err)
		}
	}
}
