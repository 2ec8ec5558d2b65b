package nfa

import (
	"slices"
	"strconv"
	"strings"
	"testing"
	"unicode/utf8"

	"bramble/api"
	"bramble/sample"
)

// written is rows as a text: bytes in base 16, a blank between those of a row, a comma between rows.
func written(rows [][]api.Arc) string {
	hex := func(n int) string { return strings.ToUpper(strconv.FormatInt(int64(n), 16)) }
	var all []string
	for _, row := range rows {
		var l []string
		for _, x := range row {
			s := hex(x.Lo)
			if x.Hi != x.Lo {
				s += "-" + hex(x.Hi)
			}
			if x.To != 0 {
				s += " to " + strconv.Itoa(x.To)
			}
			l = append(l, s)
		}
		all = append(all, strings.Join(l, " "))
	}
	return strings.Join(all, ", ")
}

func TestSplitTold(t *testing.T) {
	const least, most = -1 << 63, 1<<63 - 1
	const (
		two   = "C2-DF 80-BF"
		three = "E0 A0-BF 80-BF, E1-EC 80-BF 80-BF, ED 80-9F 80-BF"
		above = "EE-EF 80-BF 80-BF"
		four  = "F0 90-BF 80-BF 80-BF, F1-F3 80-BF 80-BF 80-BF, F4 80-8F 80-BF 80-BF"
		every = "0-7F, " + two + ", " + three + ", " + above + ", " + four
	)
	for _, c := range []struct {
		lo, hi int
		want   string
	}{
		{0xE9, 0xE9, "C3 A9"},
		// of one length
		{0, 0, "0"},
		{0x7F, 0x7F, "7F"},
		{'a', 'z', "61-7A"},
		{0, 0x7F, "0-7F"},
		{0x80, 0x7FF, two},
		{0x800, 0xD7FF, three},
		{0xE000, 0xFFFF, above},
		{0x10000, 0x10FFFF, four},
		// the first and the last of each
		{0x80, 0x80, "C2 80"},
		{0x7FF, 0x7FF, "DF BF"},
		{0x800, 0x800, "E0 A0 80"},
		{0xD7FF, 0xD7FF, "ED 9F BF"},
		{0xE000, 0xE000, "EE 80 80"},
		{0xFFFF, 0xFFFF, "EF BF BF"},
		{0x10000, 0x10000, "F0 90 80 80"},
		{0x10FFFF, 0x10FFFF, "F4 8F BF BF"},
		// across lengths
		{0x7F, 0x80, "7F, C2 80"},
		{0x7FF, 0x800, "DF BF, E0 A0 80"},
		{0xD7FF, 0xE000, "ED 9F BF, EE 80 80"},
		{0xFFFF, 0x10000, "EF BF BF, F0 90 80 80"},
		{0, 0x10FFFF, every},
		// beyond what letters are
		{-1, 0, "0"},
		{least, most, every},
		{-5, 0x7F, "0-7F"},
		{0x10FFFF, 0x110000, "F4 8F BF BF"},
		{0x10FFFF, most, "F4 8F BF BF"},
		{0xD7FF, 0xD800, "ED 9F BF"},
		{0xD7FF, 0xDFFF, "ED 9F BF"},
		{0xD800, 0xE000, "EE 80 80"},
		{0xDABC, 0xE001, "EE 80 80-81"},
		// no letter
		{0xD800, 0xDFFF, ""},
		{0xD800, 0xD800, ""},
		{0xDFFF, 0xDFFF, ""},
		{-1, -1, ""},
		{least, -1, ""},
		{0x110000, 0x110000, ""},
		{0x110000, most, ""},
		{'b', 'a', ""},
		{0x80, 0x7F, ""},
		{most, least, ""},
		{0x10FFFF, 0, ""},
		// two bytes: the first ones are the same; the first is cut, the last, both, none
		{0xC1, 0xC9, "C3 81-89"},
		{0xC0, 0xFF, "C3 80-BF"},
		{0xC1, 0xFF, "C3 81-BF"},
		{0xC0, 0xFE, "C3 80-BE"},
		{0xC1, 0x13F, "C3 81-BF, C4 80-BF"},
		{0xC1, 0x17F, "C3 81-BF, C4-C5 80-BF"},
		{0xC0, 0x17E, "C3-C4 80-BF, C5 80-BE"},
		{0xC0, 0x17F, "C3-C5 80-BF"},
		{0xC1, 0x17E, "C3 81-BF, C4 80-BF, C5 80-BE"},
		{0xFF, 0x100, "C3 BF, C4 80"},
		// three bytes, cut in the second and the third
		{0x1000, 0x1FFF, "E1 80-BF 80-BF"},
		{0x1001, 0x1FFE, "E1 80 81-BF, E1 81-BE 80-BF, E1 BF 80-BE"},
		{0x1001, 0x103E, "E1 80 81-BE"},
		{0x1040, 0x107F, "E1 81 80-BF"},
		{0x1040, 0x10BF, "E1 81-82 80-BF"},
		{0x1040, 0x3FFF, "E1 81-BF 80-BF, E2-E3 80-BF 80-BF"},
		{0x1041, 0x3FFF, "E1 81 81-BF, E1 82-BF 80-BF, E2-E3 80-BF 80-BF"},
		{0x1000, 0x3FFE, "E1-E2 80-BF 80-BF, E3 80-BE 80-BF, E3 BF 80-BE"},
		{0x1000, 0x3FBF, "E1-E2 80-BF 80-BF, E3 80-BE 80-BF"},
		{0x1000, 0x3040, "E1-E2 80-BF 80-BF, E3 80 80-BF, E3 81 80"},
		{0x1FFF, 0x2000, "E1 BF BF, E2 80 80"},
		{0x1234, 0x5678, "E1 88 B4-BF, E1 89-BF 80-BF, E2-E4 80-BF 80-BF, E5 80-98 80-BF, E5 99 80-B8"},
		{0x801, 0xFFF, "E0 A0 81-BF, E0 A1-BF 80-BF"},
		{0x800, 0xFFE, "E0 A0-BE 80-BF, E0 BF 80-BE"},
		{0x900, 0x1FFF, "E0 A4-BF 80-BF, E1 80-BF 80-BF"},
		// four bytes
		{0x10001, 0x10FFFE, "F0 90 80 81-BF, F0 90 81-BF 80-BF, F0 91-BF 80-BF 80-BF, F1-F3 80-BF 80-BF 80-BF, " +
			"F4 80-8E 80-BF 80-BF, F4 8F 80-BE 80-BF, F4 8F BF 80-BE"},
		{0x40000, 0x7FFFF, "F1 80-BF 80-BF 80-BF"},
		{0x40000, 0xFFFFF, "F1-F3 80-BF 80-BF 80-BF"},
		{0x40000, 0x100000, "F1-F3 80-BF 80-BF 80-BF, F4 80 80 80"},
		{0x7FFFF, 0x80000, "F1 BF BF BF, F2 80 80 80"},
		{0x7F000, 0x80FFF, "F1 BF 80-BF 80-BF, F2 80 80-BF 80-BF"},
		{0x41000, 0x42FFF, "F1 81-82 80-BF 80-BF"},
		{0x1F333, 0x1F335, "F0 9F 8C B3-B5"},
	} {
		got := Split(letters(c.lo, c.hi))
		if written(got) != c.want || got != nil && len(got) == 0 {
			t.Errorf("Split of %X to %X: %s, not %s", c.lo, c.hi, written(got), c.want)
		}
	}
}

// goes tells whether a text goes along a row, byte by byte.
func goes(s string, row []api.Arc) bool {
	if len(s) != len(row) {
		return false
	}
	for i, x := range row {
		if c := int(s[i]); c < x.Lo || c > x.Hi {
			return false
		}
	}
	return true
}

// ways is along how many rows a text goes.
func ways(s string, rows [][]api.Arc) int {
	n := 0
	for _, row := range rows {
		if goes(s, row) {
			n++
		}
	}
	return n
}

// edges is the numbers near which something changes.
func edges() []int {
	var out []int
	for _, n := range []int{0, 'a', 0x80, 0xC0, 0x100, 0x800, 0x1000, 0x1040, 0xD000, 0xD7C0, 0xD800, 0xDC00, 0xE000, 0xF000, 0x10000, 0x10040, 0x11000, 0x40000, 0xC0000, 0x100000, 0x10F000, 0x10FFC0, 0x110000} {
		out = append(out, n-1, n, n+1)
	}
	return out
}

// Every letter goes along one row if it is between, else along none; and the rows have no other texts, since all in all they have as many as there are letters.
func TestSplitHasEachLetterOnce(t *testing.T) {
	for _, x := range []api.Runes{
		letters(0, 0x10FFFF), letters(1, 0x10FFFE), letters('b', 0xABCDE), letters(0xC1, 0x12345), letters(0xFFF, 0xE123), letters(0xD7FF, 0xFFFF), letters(0x54321, 0x10ABCD),
	} {
		rows := Split(x)
		letters, texts := 0, 0
		for c := range rune(0x110000) {
			if !utf8.ValidRune(c) {
				continue
			}
			want := 0
			if x.Lo <= int(c) && int(c) <= x.Hi {
				want = 1
			}
			letters += want
			if ways(string(c), rows) != want {
				t.Fatalf("%X to %X: %X goes along %d rows", x.Lo, x.Hi, c, ways(string(c), rows))
			}
		}
		for _, row := range rows {
			n := 1
			for _, a := range row {
				n *= a.Hi - a.Lo + 1
			}
			texts += n
		}
		if letters != texts {
			t.Errorf("%X to %X: %d letters, %d texts", x.Lo, x.Hi, letters, texts)
		}
	}
}

func TestSplitHasNoOtherTexts(t *testing.T) {
	rows := Split(letters(0, 0x10FFFF))
	for _, s := range []string{
		"", "ab", "\x80", "\xbf", "\xc3", "\xff", "\xc3a", "\xc3\xc0", "éa", "é\x80", "\xc0\x80", "\xc1\xbf", "\xe0\x80\x80", "\xe0\x9f\xbf",
		"\xed\xa0\x80", "\xed\xbf\xbf", "\xe2\x82", "\xf0\x80\x80\x80", "\xf0\x8f\xbf\xbf", "\xf4\x90\x80\x80", "\xf5\x80\x80\x80", "\xf0\x9f\x8c", "\xf8\x88\x80\x80\x80",
	} {
		if ways(s, rows) != 0 {
			t.Errorf("%q goes along a row", s)
		}
	}
}

// block is the letters of a row that has single bytes, then some, then all that may stand there; false, if it is no such row.
func block(row []api.Arc) (lo, hi int, ok bool) {
	var a, b []byte
	wide := false
	for _, x := range row {
		if wide && (x.Lo != 0x80 || x.Hi != 0xBF) {
			return 0, 0, false
		}
		wide = wide || x.Lo != x.Hi
		a, b = append(a, byte(x.Lo)), append(b, byte(x.Hi))
	}
	c, n := utf8.DecodeRune(a)
	d, k := utf8.DecodeRune(b)
	return int(c), int(d), n == len(a) && k == len(b) && utf8.Valid(a) && utf8.Valid(b) && c <= d
}

// areOne tells whether two rows would be one, so that nothing was to be cut between them: they differ in one place, where the one goes on where the other ends, and behind it both have all.
func areOne(a, b []api.Arc) bool {
	if len(a) != len(b) {
		return false
	}
	i := 0
	for i < len(a)-1 && a[i] == b[i] && a[i].Lo == a[i].Hi {
		i++
	}
	all := func(x api.Arc) bool { return x.Lo == 0x80 && x.Hi == 0xBF }
	some := func(x api.Arc) bool { return !all(x) }
	return a[i].Hi+1 == b[i].Lo && !slices.ContainsFunc(a[i+1:], some) && !slices.ContainsFunc(b[i+1:], some)
}

// after is the letter behind one.
func after(letter int) int {
	if letter == 0xD7FF {
		return 0xE000
	}
	return letter + 1
}

// The rows are just the greatest that there are, rising, from the first letter to the last one, with nothing left out.
func checkRows(t *testing.T, x api.Runes) {
	t.Helper()
	rows := Split(x)
	next := max(x.Lo, 0)
	if next >= 0xD800 && next < 0xE000 {
		next = 0xE000
	}
	last := min(x.Hi, 0x10FFFF)
	if last >= 0xD800 && last < 0xE000 {
		last = 0xD7FF
	}
	for i, row := range rows {
		lo, hi, ok := block(row)
		if !ok || lo != next || i > 0 && areOne(rows[i-1], row) {
			t.Fatalf("%X to %X: row %d of %s", x.Lo, x.Hi, i, written(rows))
		}
		next = after(hi)
	}
	if len(rows) > 0 && next != after(last) || len(rows) == 0 && next <= last {
		t.Fatalf("%X to %X: %s", x.Lo, x.Hi, written(rows))
	}
}

func TestSplitOfEdges(t *testing.T) {
	for _, lo := range edges() {
		for _, hi := range edges() {
			checkRows(t, letters(lo, hi))
		}
	}
}

func TestSplitOfDrawn(t *testing.T) {
	seed := sample.Seed(5)
	for range 20000 {
		lo := seed.Below(0x110010)
		checkRows(t, letters(lo, lo+seed.Below(2<<seed.Below(20))))
	}
}

// Rows can be left behind any of them.
func TestRowsAreLeft(t *testing.T) {
	all := Split(letters(1, 0x10FFFE))
	for n := range all {
		var got [][]api.Arc
		for row := range rows(letters(1, 0x10FFFE)) {
			if got = append(got, row); len(got) > n {
				break
			}
		}
		if !slices.EqualFunc(got, all[:n+1], slices.Equal) {
			t.Errorf("left behind row %d: %s", n, written(got))
		}
	}
}
