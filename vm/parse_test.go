package vm

import (
	"regexp"
	"slices"
	"strconv"
	"strings"
	"testing"

	"bramble/api"
	"bramble/sample"
)

func fault(err api.Errno, at int) api.Fault {
	return api.Fault{Err: err, At: at}
}

func TestParseTold(t *testing.T) {
	yes, no := ins(api.InYes, 0, 0, 0), ins(api.InNo, 0, 0, 0)
	for _, c := range []struct {
		s    string
		want []api.Ins
	}{
		{"yes", []api.Ins{yes}},
		{"no", []api.Ins{no}},
		{"yes;no", []api.Ins{yes, no}},
		{"yes ;no", []api.Ins{yes, no}},
		{"yes; no", []api.Ins{yes, no}},
		{"  yes  ;  no  ", []api.Ins{yes, no}},
		{"char 97 98 2;yes", []api.Ins{ins(api.InChar, 97, 98, 2), yes}},
		{"char   0 0   0", []api.Ins{ins(api.InChar, 0, 0, 0)}},
		{"char 255 255 1", []api.Ins{ins(api.InChar, 255, 255, 1)}},
		{"char 0 255 1", []api.Ins{ins(api.InChar, 0, 255, 1)}},
		{"is 7 1", []api.Ins{ins(api.InIs, 7, 0, 1)}},
		{"is 255 0", []api.Ins{ins(api.InIs, 255, 0, 0)}},
		{"set 9", []api.Ins{ins(api.InSet, 9, 0, 0)}},
		{"set 0", []api.Ins{ins(api.InSet, 0, 0, 0)}},
		{"add 255", []api.Ins{ins(api.InAdd, 255, 0, 0)}},
		{"goto 1", []api.Ins{ins(api.InGoto, 0, 0, 1)}},
		{"goto 0", []api.Ins{ins(api.InGoto, 0, 0, 0)}},
		{repeated("yes", 64), slices.Repeat([]api.Ins{yes}, 64)},
		{repeated("goto 64", 64), slices.Repeat([]api.Ins{ins(api.InGoto, 0, 0, 64)}, 64)},
		{strings.Repeat(" ", 100000) + "yes" + strings.Repeat(" ", 100000), []api.Ins{yes}},
	} {
		p, f := Parse(c.s)
		if f != (api.Fault{}) || !slices.Equal(p, c.want) {
			t.Errorf("%.60q: %v, %v, not %v", c.s, p, f, c.want)
		}
	}
}

func TestParseFaults(t *testing.T) {
	full := repeated("yes", 64)
	for _, c := range []struct {
		s    string
		want api.Fault
	}{
		{"", fault(api.ErrShort, 0)},
		{"   ", fault(api.ErrShort, 3)},
		{";", fault(api.ErrForm, 0)},
		{" ;yes", fault(api.ErrForm, 1)},
		{"yes;", fault(api.ErrShort, 4)},
		{"yes ; ", fault(api.ErrShort, 6)},
		{"yes;;no", fault(api.ErrForm, 4)},
		{"yes no", fault(api.ErrForm, 4)},
		{"yes 0", fault(api.ErrForm, 4)},
		{"yesno", fault(api.ErrForm, 0)},
		{"Yes", fault(api.ErrForm, 0)},
		{"ye", fault(api.ErrForm, 0)},
		{"jump 0", fault(api.ErrForm, 0)},
		{"1", fault(api.ErrForm, 0)},
		{"char1 1 0", fault(api.ErrForm, 0)},
		{"\x00", fault(api.ErrForm, 0)},
		{"yes; é", fault(api.ErrForm, 5)},
		{"char", fault(api.ErrShort, 4)},
		{"char 1", fault(api.ErrShort, 6)},
		{"char 1 2", fault(api.ErrShort, 8)},
		{"char 1 2  ", fault(api.ErrShort, 10)},
		{"char 1 2;", fault(api.ErrForm, 8)},
		{"char ;", fault(api.ErrForm, 5)},
		{"char;", fault(api.ErrForm, 4)},
		{"char 1 2 0 0", fault(api.ErrForm, 11)},
		{"char 1 2 yes", fault(api.ErrForm, 9)},
		{"char x 2 0", fault(api.ErrForm, 5)},
		{"is", fault(api.ErrShort, 2)},
		{"is 1", fault(api.ErrShort, 4)},
		{"is 1;", fault(api.ErrForm, 4)},
		{"is 1 0 0", fault(api.ErrForm, 7)},
		{"set", fault(api.ErrShort, 3)},
		{"set ;", fault(api.ErrForm, 4)},
		{"set 1 1", fault(api.ErrForm, 6)},
		{"add", fault(api.ErrShort, 3)},
		{"add 1 1", fault(api.ErrForm, 6)},
		{"goto", fault(api.ErrShort, 4)},
		{"goto 0 0", fault(api.ErrForm, 7)},
		{"no 0", fault(api.ErrForm, 3)},
		// White space that is no blank.
		{"yes\t", fault(api.ErrForm, 0)},
		{"yes\n;no", fault(api.ErrForm, 0)},
		{"set\t1", fault(api.ErrForm, 0)},
		{"set 1\r", fault(api.ErrForm, 4)},
		{"set 1 \n", fault(api.ErrForm, 6)},
		{"set \u00a01", fault(api.ErrForm, 4)},
		{"yes;\tno", fault(api.ErrForm, 4)},
		// Numbers.
		{"set 256", fault(api.ErrForm, 4)},
		{"set 999", fault(api.ErrForm, 4)},
		{"set 1000", fault(api.ErrForm, 4)},
		{"set 0255", fault(api.ErrForm, 4)},
		{"set 00", fault(api.ErrForm, 4)},
		{"set 01", fault(api.ErrForm, 4)},
		{"set 007", fault(api.ErrForm, 4)},
		{"set -1", fault(api.ErrForm, 4)},
		{"set -0", fault(api.ErrForm, 4)},
		{"set +1", fault(api.ErrForm, 4)},
		{"set 1_0", fault(api.ErrForm, 4)},
		{"set 0x1", fault(api.ErrForm, 4)},
		{"set 1.0", fault(api.ErrForm, 4)},
		{"set ١", fault(api.ErrForm, 4)},
		{"set 18446744073709551617", fault(api.ErrForm, 4)},
		{"set " + strings.Repeat("9", 100000), fault(api.ErrForm, 4)},
		{"add 256", fault(api.ErrForm, 4)},
		{"is 256 0", fault(api.ErrForm, 3)},
		{"char 256 256 0", fault(api.ErrForm, 5)},
		{"char 0 256 0", fault(api.ErrForm, 7)},
		// Y below X.
		{"char 98 97 0", fault(api.ErrForm, 8)},
		{"char 255 0 x", fault(api.ErrForm, 9)},
		{"char 98 97", fault(api.ErrForm, 8)},
		{"char 98 97 0; x", fault(api.ErrForm, 8)},
		// A Z that is too great, alone and beside something else.
		{"goto 2", fault(api.ErrForm, 5)},
		{"is 9 2", fault(api.ErrForm, 5)},
		{"char 9 10 2", fault(api.ErrForm, 10)},
		{"goto 255", fault(api.ErrForm, 5)},
		{"goto 256", fault(api.ErrForm, 5)},
		{"yes; goto 3", fault(api.ErrForm, 10)},
		{"goto 3; yes", fault(api.ErrForm, 5)},
		{"yes; is 0 3; goto 4", fault(api.ErrForm, 18)},
		{"yes; is 0 4; goto 4", fault(api.ErrForm, 10)},
		{"goto 9; is 0 9; char 0 0 9", fault(api.ErrForm, 5)},
		{"goto 1; is 0 9; char 0 0 9", fault(api.ErrForm, 13)},
		{"goto 9; x", fault(api.ErrForm, 8)},
		{"goto 9 x", fault(api.ErrForm, 7)},
		{"goto 9;", fault(api.ErrShort, 7)},
		{"goto 9; set", fault(api.ErrShort, 11)},
		{"goto 9; char 2 1 0", fault(api.ErrForm, 15)},
		{"set 256; goto 9", fault(api.ErrForm, 4)},
		{"goto 9; goto 256", fault(api.ErrForm, 13)},
		{repeated("yes", 63) + "; goto 65", fault(api.ErrForm, 63*5+5)},
		{repeated("goto 65", 64), fault(api.ErrForm, 5)},
		{"goto 65; " + full, fault(api.ErrMany, 9+63*5)},
		// Two things that are wrong.
		{"x y", fault(api.ErrForm, 0)},
		{"set 256; x", fault(api.ErrForm, 4)},
		{"x; set", fault(api.ErrForm, 0)},
		{"set x; set", fault(api.ErrForm, 4)},
		// The 65th.
		{full + "; yes", fault(api.ErrMany, 64*5)},
		{full + ";yes", fault(api.ErrMany, 64*5-1)},
		{full + ";  yes", fault(api.ErrMany, 64*5+1)},
		{full + "; set", fault(api.ErrMany, 64*5)},
		{full + "; set x", fault(api.ErrMany, 64*5)},
		{full + "; char 9 8 7", fault(api.ErrMany, 64*5)},
		{full + "; yes; yes", fault(api.ErrMany, 64*5)},
		{full + "; x", fault(api.ErrForm, 64*5)},
		{full + "; ;", fault(api.ErrForm, 64*5)},
		{full + ";", fault(api.ErrShort, 64*5-1)},
		{full + "; ", fault(api.ErrShort, 64*5)},
		{full + " yes", fault(api.ErrForm, 64*5-1)},
		{"x; " + full, fault(api.ErrForm, 0)},
		{repeated("yes", 63) + "; set 256; yes", fault(api.ErrForm, 63*5+4)},
		{repeated("yes", 100000), fault(api.ErrMany, 64*5)},
		{strings.Repeat("yes", 100000), fault(api.ErrForm, 0)},
		{strings.Repeat(";", 100000), fault(api.ErrForm, 0)},
		{strings.Repeat(" ", 100000), fault(api.ErrShort, 100000)},
	} {
		p, f := Parse(c.s)
		if f != c.want || p != nil {
			t.Errorf("%.60q: %v, %v, not %v", c.s, p, f, c.want)
		}
	}
}

// TestParseNumbers: each number of at most 4 digits.
func TestParseNumbers(t *testing.T) {
	digits := []string{"0", "1", "2", "3", "4", "5", "6", "7", "8", "9"}
	for _, w := range sample.Texts(digits, 4)[1:] {
		n, _ := strconv.Atoi(w)
		right := n <= 255 && (w == "0" || w[0] != '0')
		p, f := Parse("set " + w)
		if right && (f != (api.Fault{}) || !slices.Equal(p, []api.Ins{ins(api.InSet, n, 0, 0)})) {
			t.Fatalf("%q: %v, %v", w, p, f)
		}
		if !right && (f != fault(api.ErrForm, 4) || p != nil) {
			t.Fatalf("%q: %v, %v", w, p, f)
		}
	}
}

// TestParseBytes: each byte as, and beside, a word.
func TestParseBytes(t *testing.T) {
	for c := range 256 {
		b := string([]byte{byte(c)})
		alone, behind := fault(api.ErrForm, 0), fault(api.ErrForm, 0)
		switch b {
		case " ":
			alone, behind = fault(api.ErrShort, 1), api.Fault{}
		case ";":
			behind = fault(api.ErrShort, 4)
		}
		if p, f := Parse(b); f != alone || p != nil {
			t.Errorf("%q: %v, %v", b, p, f)
		}
		if _, f := Parse("yes" + b); f != behind {
			t.Errorf("yes and %q: %v", b, f)
		}
	}
}

// judge judges programs by patterns, apart from how they are read.
type judge struct {
	words, operation, zs *regexp.Regexp
}

func newJudge() judge {
	const n = `(?:0|[1-9][0-9]?|1[0-9][0-9]|2[0-4][0-9]|25[0-5])`
	const op = `(?:char +` + n + ` +` + n + ` +` + n + `|is +` + n + ` +` + n + `|(?:set|add) +` + n + `|goto +` + n + `|yes|no)`
	return judge{
		words:     regexp.MustCompile(`[^ ;]+|;`),
		operation: regexp.MustCompile(`^ *` + op + `(?: *; *` + op + `)* *$`),
		zs:        regexp.MustCompile(`(?:char +[0-9]+ +[0-9]+|is +[0-9]+|goto) +([0-9]+)`),
	}
}

// whole tells whether a text is a program, but for how great each Z is.
func (j judge) whole(s string) bool {
	if !j.operation.MatchString(s) {
		return false
	}
	for _, op := range strings.Split(s, ";") {
		w := strings.Fields(op)
		if w[0] == "char" && value(w[1]) > value(w[2]) {
			return false
		}
	}
	return true
}

func value(s string) int {
	n, _ := strconv.Atoi(s)
	return n
}

// fault is what Parse should tell: a word may not stand where it can't be gone on to a program.
func (j judge) fault(s string) api.Fault {
	opens := func(from string) bool {
		return slices.ContainsFunc([]string{"", "255", "255 255", "255 255 255", "yes"}, func(more string) bool {
			return j.whole(from + " " + more)
		})
	}
	begun := 0
	for _, at := range j.words.FindAllStringIndex(s, -1) {
		if !opens(s[:at[1]]) {
			return fault(api.ErrForm, at[0])
		}
		if s[at[0]] >= 'a' {
			begun++
		}
		if begun == 65 {
			return fault(api.ErrMany, at[0])
		}
	}
	if !j.whole(s) {
		return fault(api.ErrShort, len(s))
	}
	for _, z := range j.zs.FindAllStringSubmatchIndex(s, -1) {
		if value(s[z[2]:z[3]]) > begun {
			return fault(api.ErrForm, z[2])
		}
	}
	return api.Fault{}
}

// holds checks what Parse tells of a text.
func (j judge) holds(t *testing.T, s string) {
	t.Helper()
	p, f := Parse(s)
	if want := j.fault(s); f != want {
		t.Fatalf("%q: %v, not %v", s, f, want)
	}
	if f.Err != api.OK {
		if p != nil {
			t.Fatalf("%q: %v beside %v", s, p, f)
		}
		return
	}
	tidy := strings.Join(strings.Fields(strings.ReplaceAll(s, ";", " ; ")), " ")
	tidy = strings.ReplaceAll(tidy, " ;", ";")
	if !Fit(p) || Print(p) != tidy {
		t.Fatalf("%q is read as %q", s, Print(p))
	}
}

func TestParseAllSmall(t *testing.T) {
	j := newJudge()
	for _, s := range sample.Texts([]string{"yes", "set ", "goto ", "1", "2 ", ";", " "}, 5) {
		j.holds(t, s)
	}
	for _, s := range sample.Texts([]string{"char ", "is ", "add", " 0", " 3 ", ";", "x"}, 4) {
		j.holds(t, s)
		j.holds(t, "no;"+s+"4")
	}
}

// TestParseDrawn: programs in which a word or two are others.
func TestParseDrawn(t *testing.T) {
	j, seed := newJudge(), sample.Seed(63)
	right := []string{"char 1 1 0", "char 97 122 2", "is 0 3", "set 255", "add 1", "goto 1", "yes", "no", "goto 6"}
	wrong := []string{"", "x", ";", "0", "255", "256", "07", "7", "yes", "char", "is 1", "; no", "goto 64", "goto 66 ;", "\t"}
	for range 4000 {
		var w []string
		many := 1 + seed.Below(6)
		if seed.Below(4) == 0 {
			many = 62 + seed.Below(5)
		}
		for n := range many {
			if n > 0 {
				w = append(w, ";")
			}
			w = append(w, strings.Fields(right[seed.Below(len(right))])...)
		}
		for range seed.Below(3) {
			w[seed.Below(len(w))] = wrong[seed.Below(len(wrong))]
		}
		j.holds(t, strings.Join(w[:len(w)-seed.Below(2)], " "))
	}
}
