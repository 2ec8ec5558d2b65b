package rex

import (
	"strings"
	"testing"

	"bramble/api"
	"bramble/sample"
)

// dot is any letter but 10.
func dot() api.Rex { return in(0, 9, 11, 0xD7FF, 0xE000, 0x10FFFF) }

// read is a text and the expression that is read of it.
type read struct {
	s    string
	want api.Rex
}

// checkRead holds what Parse tells of texts against what it should.
func checkRead(t *testing.T, l []read) {
	t.Helper()
	for _, x := range l {
		if got, f := Parse(x.s); !Same(got, x.want) || f != (api.Fault{}) {
			t.Errorf("Parse(%q) = %x, %v, not %x", x.s, got, f, x.want)
		}
	}
}

func TestParseTold(t *testing.T) {
	a, b, c := one('a'), one('b'), one('c')
	checkRead(t, []read{
		{"", nothing()},
		{"()", nothing()},
		{"(())", nothing()},
		{"a", a},
		{"(a)", a},
		{"((a))", a},
		{"ab", cat(a, b)},
		{"(ab)", cat(a, b)},
		{"(a)b", cat(a, b)},
		{"(ab)c", cat(cat(a, b), c)},
		{"a(bc)", cat(a, cat(b, c))},
		{"a|b", alt(a, b)},
		{"(a|b)", alt(a, b)},
		{"(a|b)|c", alt(alt(a, b), c)},
		{"a|b|c", alt(a, b, c)},
		{"a|b*c", alt(a, cat(star(b), c))},
		{"ab|c", alt(cat(a, b), c)},
		{"a(b|c)", cat(a, alt(b, c))},
		{"a|", alt(a, nothing())},
		{"|a", alt(nothing(), a)},
		{"a||b", alt(a, nothing(), b)},
		{"|", alt(nothing(), nothing())},
		{"||", alt(nothing(), nothing(), nothing())},
		{"(|)", alt(nothing(), nothing())},
		{"a(|b)", cat(a, alt(nothing(), b))},
		{"a()", cat(a, nothing())},
		{"()a", cat(nothing(), a)},
		{"()|()", alt(nothing(), nothing())},
		{"a*", star(a)},
		{"a+", plus(a)},
		{"a?", opt(a)},
		{"ab+", cat(a, plus(b))},
		{"(ab)+", plus(cat(a, b))},
		{"(a*)*", star(star(a))},
		{"((a)?)+", plus(opt(a))},
		{"()*", star(nothing())},
		{"(|)?", opt(alt(nothing(), nothing()))},
		{"[a-c]+", plus(in('a', 'c'))},
	})
}

func TestParseOfLetters(t *testing.T) {
	checkRead(t, []read{
		{".", dot()},
		{`\n`, one(10)},
		{`\t`, one(9)},
		{`\r`, one(13)},
		{`\d`, in('0', '9')},
		{`\w`, in('0', '9', 'A', 'Z', '_', '_', 'a', 'z')},
		{`\s`, in(9, 10, 13, 13, 32, 32)},
		{`\d+`, plus(in('0', '9'))},
		{`\\`, one('\\')},
		{`\.\(`, cat(one('.'), one('('))},
		{"-", one('-')},
		{"^", one('^')},
		{"{}", cat(one('{'), one('}'))},
		{"\x00", one(0)},
		{" ", one(' ')},
		{"\n", one(10)},
		{"\x7f", one(0x7F)},
		{"\u0080", one(0x80)},
		{"é", one(0xE9)},
		{"\u07ff", one(0x7FF)},
		{"\u0800", one(0x800)},
		{"€*", star(one(0x20AC))},
		{"\ud7ff", one(0xD7FF)},
		{"\ue000", one(0xE000)},
		{"\ufffd", one(0xFFFD)},
		{"\uffff", one(0xFFFF)},
		{"\U00010000", one(0x10000)},
		{"\U0010ffff", one(0x10FFFF)},
		{"é€\U0001F333", cat(one(0xE9), one(0x20AC), one(0x1F333))},
	})
}

func TestParseOfSets(t *testing.T) {
	checkRead(t, []read{
		{"[a]", one('a')},
		{"[ab]", in('a', 'b')},
		{"[ba]", in('a', 'b')},
		{"[ac]", in('a', 'a', 'c', 'c')},
		{"[aa]", one('a')},
		{"[a-c]", in('a', 'c')},
		{"[a-a]", one('a')},
		{"[a-cb-d]", in('a', 'd')},
		{"[a-cd-f]", in('a', 'f')},
		{"[a-ce-f]", in('a', 'c', 'e', 'f')},
		{"[e-fa-c]", in('a', 'c', 'e', 'f')},
		{"[a-zc]", in('a', 'z')},
		{"[ca-z]", in('a', 'z')},
		{"[a-cb]", in('a', 'c')},
		{"[^a]", in(0, 'a'-1, 'a'+1, 0xD7FF, 0xE000, 0x10FFFF)},
		{"[^\x00]", in(1, 0xD7FF, 0xE000, 0x10FFFF)},
		{"[^\U0010ffff]", in(0, 0xD7FF, 0xE000, 0x10FFFE)},
		{"[^\x00-\ud7ff]", in(0xE000, 0x10FFFF)},
		{"[^\ue000-\U0010ffff]", in(0, 0xD7FF)},
		{"[^\ud7ff\ue000]", in(0, 0xD7FE, 0xE001, 0x10FFFF)},
		{"[^\x00-\U0010fffe]", one(0x10FFFF)},
		{"[^\ud000-\uf000]", in(0, 0xCFFF, 0xF001, 0x10FFFF)},
		{`[^\n]`, dot()},
		{"[\ud7ff\ue000]", in(0xD7FF, 0xD7FF, 0xE000, 0xE000)},
		{"[\ue000\ud7ff]", in(0xD7FF, 0xD7FF, 0xE000, 0xE000)},
		{"[\ud7ff-\ue000]", in(0xD7FF, 0xD7FF, 0xE000, 0xE000)},
		{"[\x00-\U0010ffff]", in(0, 0xD7FF, 0xE000, 0x10FFFF)},
		{"[a-\ue001]", in('a', 0xD7FF, 0xE000, 0xE001)},
		{"[é-ü]", in(0xE9, 0xFC)},
		{"[a-é]", in('a', 0xE9)},
		{"[\ufffd]", one(0xFFFD)},
		{`[\d]`, in('0', '9')},
		{`[\w\s]`, in(9, 10, 13, 13, 32, 32, '0', '9', 'A', 'Z', '_', '_', 'a', 'z')},
		{`[\da-f]`, in('0', '9', 'a', 'f')},
		{`[a-f\d]`, in('0', '9', 'a', 'f')},
		{`[^\d]`, in(0, '0'-1, '9'+1, 0xD7FF, 0xE000, 0x10FFFF)},
		{`[^\w\s\d]`, in(0, 8, 11, 12, 14, 31, 33, '/', ':', '@', '[', '^', '`', '`', '{', 0xD7FF, 0xE000, 0x10FFFF)},
		{`[\n\t\r]`, in(9, 10, 13, 13)},
		{`[\t-\r]`, in(9, 13)},
		{`[\t-a]`, in(9, 'a')},
		{`[!-\~]`, in('!', '~')},
		{`[\-]`, one('-')},
		{`[\^]`, one('^')},
		{`[\]\[]`, in('[', '[', ']', ']')},
		{`[\[-\]]`, in('[', ']')},
		{`[\--\/]`, in('-', '/')},
		{`[a\-z]`, in('-', '-', 'a', 'a', 'z', 'z')},
		{`[^\^]`, in(0, ']', '_', 0xD7FF, 0xE000, 0x10FFFF)},
		{`[()*+?|.]`, in('(', '+', '.', '.', '?', '?', '|', '|')},
		{"[ \n]", in(10, 10, 32, 32)},
		{"[dws]", in('d', 'd', 's', 's', 'w', 'w')},
		{"[d-w]", in('d', 'w')},
	})
}

// Of all bytes which ones may stand alone, which ones behind a backslash, which ones in [ ].
func TestParseOfEveryByte(t *testing.T) {
	const behind = "!\"#$%&'()*+,-./:;<=>?@[\\]^_`{|}~"
	for n := range 128 {
		s := string(rune(n))
		wrong := strings.Contains(`)]*+?`, s)
		if n != '(' && n != '[' && n != '|' && n != '.' && n != '\\' {
			check(t, s, one(n), wrong, 0)
		}
		if !strings.Contains("ntrdws", s) {
			check(t, `\`+s, one(n), !strings.Contains(behind, s), 1)
			check(t, `[\`+s+"]", one(n), !strings.Contains(behind, s), 2)
			check(t, `[\`+s+`-\`+s+"]", one(n), !strings.Contains(behind, s), 2)
		}
		if n != '\\' && n != '^' {
			check(t, "["+s+"]", one(n), n == ']' || n == '[' || n == '-', 1)
		}
		if n != '\\' && n != ']' && n != '-' {
			check(t, "[a-a"+s+"]", pair('a', n), n == '[' || n == '^', 4)
		}
	}
	for n := 128; n < 256; n++ {
		for _, s := range []string{string([]byte{byte(n)}), string([]byte{byte(n), 'a'})} {
			check(t, s, nothing(), true, 0)
			check(t, "a"+s, nothing(), true, 1)
			check(t, `\`+s, nothing(), true, 1)
			check(t, "["+s, nothing(), true, 1)
			check(t, "[é-"+s, nothing(), true, 4)
		}
	}
}

// pair is the set of two letters.
func pair(a, b int) api.Rex {
	a, b = min(a, b), max(a, b)
	if b-a <= 1 {
		return in(a, b)
	}
	return in(a, a, b, b)
}

// check holds Parse against an expression, or, where s is wrong, against ErrForm at a place.
func check(t *testing.T, s string, want api.Rex, wrong bool, at int) {
	t.Helper()
	fault := api.Fault{}
	if wrong {
		want, fault = api.Rex{}, api.Fault{Err: api.ErrForm, At: at}
	}
	if got, f := Parse(s); !Same(got, want) || f != fault {
		t.Errorf("Parse(%q) = %x, %v, not %x, %v", s, got, f, want, fault)
	}
}

func TestParseFaults(t *testing.T) {
	for _, c := range []struct {
		s   string
		err api.Errno
		at  int
	}{
		{"a**", api.ErrForm, 2},
		{"a*+", api.ErrForm, 2},
		{"a+?", api.ErrForm, 2},
		{"a??", api.ErrForm, 2},
		{"*", api.ErrForm, 0},
		{"+a", api.ErrForm, 0},
		{"?", api.ErrForm, 0},
		{"a|*", api.ErrForm, 2},
		{"(*a)", api.ErrForm, 1},
		{"(a|+)", api.ErrForm, 3},
		{"()**", api.ErrForm, 3},
		{")", api.ErrForm, 0},
		{"a)", api.ErrForm, 1},
		{"a|)", api.ErrForm, 2},
		{"(a))", api.ErrForm, 3},
		{"(a))b", api.ErrForm, 3},
		{"]", api.ErrForm, 0},
		{"a]", api.ErrForm, 1},
		{"[a]]", api.ErrForm, 3},
		{"(", api.ErrShort, 1},
		{"(a", api.ErrShort, 2},
		{"(a|", api.ErrShort, 3},
		{"((a)", api.ErrShort, 4},
		{"(é", api.ErrShort, 3},
		{"(a*", api.ErrShort, 3},
		{`\`, api.ErrShort, 1},
		{`a\`, api.ErrShort, 2},
		{`é\`, api.ErrShort, 3},
		{`\a`, api.ErrForm, 1},
		{`\N`, api.ErrForm, 1},
		{`\0`, api.ErrForm, 1},
		{`\ `, api.ErrForm, 1},
		{"\\\n", api.ErrForm, 1},
		{`\é`, api.ErrForm, 1},
		{"\\\x7f", api.ErrForm, 1},
		{`aé\q`, api.ErrForm, 4},
		{"[", api.ErrShort, 1},
		{"[^", api.ErrShort, 2},
		{"[a", api.ErrShort, 2},
		{"[a-", api.ErrShort, 3},
		{"[a-c", api.ErrShort, 4},
		{`[\`, api.ErrShort, 2},
		{`[a-\`, api.ErrShort, 4},
		{`[\d`, api.ErrShort, 3},
		{"[é", api.ErrShort, 3},
		{"[]", api.ErrForm, 1},
		{"[]a]", api.ErrForm, 1},
		{"[^]", api.ErrForm, 2},
		{"[^]a]", api.ErrForm, 2},
		{"a[]", api.ErrForm, 2},
		{"[[]", api.ErrForm, 1},
		{"[a[]", api.ErrForm, 2},
		{"[-]", api.ErrForm, 1},
		{"[-a]", api.ErrForm, 1},
		{"[^-a]", api.ErrForm, 2},
		{"[^^]", api.ErrForm, 2},
		{"[a^]", api.ErrForm, 2},
		{"[a-]", api.ErrForm, 3},
		{"[a--]", api.ErrForm, 3},
		{"[a-^]", api.ErrForm, 3},
		{"[a-[]", api.ErrForm, 3},
		{"[a-b-c]", api.ErrForm, 4},
		{"[ab-]", api.ErrForm, 4},
		{`[\d-z]`, api.ErrForm, 3},
		{`[\w-]`, api.ErrForm, 3},
		{`[a-\d]`, api.ErrForm, 4},
		{`[a-\w]`, api.ErrForm, 4},
		{`[a-\s]`, api.ErrForm, 4},
		{`[\a]`, api.ErrForm, 2},
		{`[a-\a]`, api.ErrForm, 4},
		{"[b-a]", api.ErrForm, 3},
		{"[é-a]", api.ErrForm, 4},
		{"[ü-é]", api.ErrForm, 4},
		{`[a-\n]`, api.ErrForm, 3},
		{`[\~-\-]`, api.ErrForm, 4},
		{"[\ue000-\ud7ff]", api.ErrForm, 5},
		{"[a-cc-a]", api.ErrForm, 6},
		{"[^\x00-\U0010ffff]", api.ErrForm, 8},
		{"[^\x00-\ud7ff\ue000-\U0010ffff]", api.ErrForm, 15},
		{"a[^b\x00-ac-\U0010ffff]", api.ErrForm, 13},
		{"[^\x00-\U0010ffff", api.ErrShort, 8},
		{"\xff", api.ErrForm, 0},
		{"a\xc3", api.ErrForm, 1},
		{"a\xc3(", api.ErrForm, 1},
		{"é\xe2\x82", api.ErrForm, 2},
		{"\xc0\x80", api.ErrForm, 0},
		{"\xe0\x80\x80", api.ErrForm, 0},
		{"\xed\xa0\x80", api.ErrForm, 0},
		{"\xed\xbf\xbf", api.ErrForm, 0},
		{"\xf0\x80\x80\x80", api.ErrForm, 0},
		{"\xf4\x90\x80\x80", api.ErrForm, 0},
		{"\xf8\x88\x80\x80\x80", api.ErrForm, 0},
		{"\ufffd\xff", api.ErrForm, 3},
		{"[a\xff]", api.ErrForm, 2},
		{"[a-\xff]", api.ErrForm, 3},
		{"\\\xff", api.ErrForm, 1},
		{"a*\xff", api.ErrForm, 2},
		{"(\xff", api.ErrForm, 1},
	} {
		got, f := Parse(c.s)
		if want := (api.Fault{Err: c.err, At: c.at}); f != want || !Same(got, api.Rex{}) {
			t.Errorf("Parse(%q) = %v, %v, not %v", c.s, got, f, want)
		}
	}
}

// atLimit holds the fault of a text against the one that is wanted, or none.
func atLimit(t *testing.T, name, s string, err api.Errno, at int) {
	t.Helper()
	got, f := Parse(s)
	if f != (api.Fault{Err: err, At: at}) {
		t.Errorf("%s: fault %v, not %v at %d", name, f, err, at)
	}
	if f.Err != api.OK && !Same(got, api.Rex{}) {
		t.Errorf("%s: an expression beside %v", name, f)
	}
	if f.Err == api.OK && !Fit(got) {
		t.Errorf("%s: what is told is not fit", name)
	}
}

func TestParseOfLong(t *testing.T) {
	long := func(n int) string { return "[" + strings.Repeat("a", n-2) + "]" }
	atLimit(t, "8192 bytes", long(8192), api.OK, 0)
	atLimit(t, "8193 bytes", long(8193), api.ErrLong, 8192)
	atLimit(t, "8194 bytes of two each", "["+strings.Repeat("é", 4096)+"]", api.ErrLong, 8192)
	atLimit(t, "8192 bytes, wrong", strings.Repeat("*", 8192), api.ErrForm, 0)
	atLimit(t, "8193 bytes, wrong", strings.Repeat("*", 8193), api.ErrLong, 8192)
	atLimit(t, "very many bytes", strings.Repeat("(", 1<<20), api.ErrLong, 8192)
}

func TestParseOfDeep(t *testing.T) {
	in := func(n int, s string) string { return strings.Repeat("(", n) + s + strings.Repeat(")", n) }
	atLimit(t, "16", in(16, "a"), api.OK, 0)
	atLimit(t, "16, nothing", in(16, ""), api.OK, 0)
	atLimit(t, "17", in(17, "a"), api.ErrDeep, 16)
	atLimit(t, "17, nothing", in(17, ""), api.ErrDeep, 16)
	atLimit(t, "17, not closed", strings.Repeat("(", 17), api.ErrDeep, 16)
	atLimit(t, "16, not closed", strings.Repeat("(", 16), api.ErrShort, 16)
	atLimit(t, "17 wrong ahead", "*"+in(17, "a"), api.ErrForm, 0)
	atLimit(t, "17 wrong behind", in(17, "*"), api.ErrDeep, 16)
	atLimit(t, "needed 16", strings.Repeat("a(", 16)+"ab"+strings.Repeat(")", 16), api.OK, 0)
	atLimit(t, "needed 17", strings.Repeat("é(", 17)+"ab"+strings.Repeat(")", 17), api.ErrDeep, 50)
	atLimit(t, "side by side", strings.Repeat(in(16, "a"), 20), api.OK, 0)
	atLimit(t, "side by side, the last one deeper", in(16, "a")+"|"+in(17, "a"), api.ErrDeep, 33+1+16)
	atLimit(t, "as letters", strings.Repeat(`\(`, 20)+strings.Repeat("[()]", 20), api.OK, 0)
	atLimit(t, "of those closed again", in(8, in(8, "a")+in(8, "b")), api.OK, 0)
	atLimit(t, "of those closed again, deeper", in(8, in(8, "a")+in(9, "b")), api.ErrDeep, 8+17+8)
}

func TestParseOfMany(t *testing.T) {
	a400 := strings.Repeat("a", 400)
	for _, c := range []struct {
		name, s string
		err     api.Errno
		at      int
	}{
		{"400", a400, api.OK, 0},
		{"401", a400 + "a", api.ErrMany, 400},
		{"402", a400 + "aa", api.ErrMany, 400},
		{"400 of two bytes", strings.Repeat("é", 400), api.OK, 0},
		{"401 of two bytes", strings.Repeat("é", 401), api.ErrMany, 800},
		{"400 sets", strings.Repeat("[ab]", 400), api.OK, 0},
		{"401 sets", strings.Repeat("[ab]", 401), api.ErrMany, 1600},
		{"400 kinds", strings.Repeat(`\d`, 400), api.OK, 0},
		{"401 kinds", strings.Repeat(`\d`, 401), api.ErrMany, 800},
		{"401 dots", strings.Repeat(".", 401), api.ErrMany, 400},
		{"400 repeated", strings.Repeat("a*", 400), api.OK, 0},
		{"401 repeated", strings.Repeat("a*", 401), api.ErrMany, 800},
		{"400 alternatives", a400[:1] + strings.Repeat("|a", 399), api.OK, 0},
		{"401 alternatives", a400[:1] + strings.Repeat("|a", 400), api.ErrMany, 800},
		{"400 of nothing", strings.Repeat("|", 399), api.OK, 0},
		{"401 of nothing", strings.Repeat("|", 400), api.ErrMany, 400},
		{"401 of nothing, one behind", strings.Repeat("|", 401), api.ErrMany, 400},
		{"400 () ", strings.Repeat("()", 400), api.OK, 0},
		{"401 ()", strings.Repeat("()", 401), api.ErrMany, 801},
		{"nothing at the end", a400 + "|", api.ErrMany, 401},
		{"nothing between", a400 + "||b", api.ErrMany, 401},
		{"nothing in ()", a400 + "()", api.ErrMany, 401},
		{"nothing ahead of | in ()", a400 + "(|a)", api.ErrMany, 401},
		{"nothing behind | in ()", strings.Repeat("a", 399) + "(a|)", api.ErrMany, 402},
		{"one in ()", a400 + "(a)", api.ErrMany, 401},
		{"one in () of 400", strings.Repeat("a", 399) + "(a)*", api.OK, 0},
		{"a set as the 401st", a400 + "[ab]", api.ErrMany, 400},
		{"of the 401st what is wrong stands behind", a400 + "[b-a]", api.ErrMany, 400},
		{"the 401st ends too early", a400 + "[", api.ErrMany, 400},
		{"the 401st is a backslash", a400 + `\q`, api.ErrMany, 400},
		{"the 401st ends at once", a400 + `\`, api.ErrMany, 400},
		{"nothing in ( that is not closed", a400 + "(", api.ErrMany, 401},
		{"what is wrong at the 401st's place", a400 + "\xff", api.ErrForm, 400},
		{") at the 401st's place", a400 + ")", api.ErrForm, 400},
		{") that ends nothing and closes nothing", a400 + "|)", api.ErrForm, 401},
		{"* at the 401st's place", a400 + "|*", api.ErrForm, 401},
		{"* behind 400", a400 + "*", api.OK, 0},
		{"** behind 400", a400 + "**", api.ErrForm, 401},
		{"] behind 400", a400 + "]", api.ErrForm, 400},
		{"too deep ahead of the 401st", a400 + strings.Repeat("(", 17) + "a", api.ErrDeep, 416},
		{"the 401st ahead of too deep", a400 + "a" + strings.Repeat("(", 17), api.ErrMany, 400},
	} {
		atLimit(t, c.name, c.s, c.err, c.at)
	}
}

// An RxEmpty that stands as nothing within 16 parentheses is written as the 17th: it is told as it stands there, though it is not fit.
func TestParseOfNothingAtTheDeepest(t *testing.T) {
	s := strings.Repeat("a(", 16) + "|a" + strings.Repeat(")", 16)
	x, f := Parse(s)
	if f != (api.Fault{}) || !Same(x, nested(16, alt(nothing(), one('a')))) {
		t.Fatalf("Parse(%q) = %v, %v", s, x, f)
	}
	if Fit(x) {
		t.Error("17 parentheses are fit")
	}
	if n, ok := Longest(x, strings.Repeat("a", 20)); n != 17 || !ok {
		t.Errorf("Longest: %d, %v", n, ok)
	}
}

// Where a fault is told: what stands ahead of it may go on, and nothing behind it plays a part.
func TestFaultsStandFirst(t *testing.T) {
	more := []string{"a", ")", "]", "*", "|", "\xff"}
	for _, s := range sample.Texts([]string{"a", "(", ")", "[", "]", "*", "|", `\`, "-", "^", "d", "é", "\xff"}, 5) {
		x, f := Parse(s)
		if f.Err == api.OK {
			if f.At != 0 || !Fit(x) {
				t.Fatalf("Parse(%q) = %v, %v", s, x, f)
			}
			continue
		}
		if f.Err == api.ErrShort {
			if f.At != len(s) {
				t.Fatalf("Parse(%q) falls short at %d", s, f.At)
			}
			continue
		}
		if f.Err != api.ErrForm || f.At < 0 || f.At >= len(s) {
			t.Fatalf("Parse(%q) = %v", s, f)
		}
		if _, ahead := Parse(s[:f.At]); ahead.Err != api.OK && ahead != (api.Fault{Err: api.ErrShort, At: f.At}) {
			t.Fatalf("Parse(%q) = %v, of what is ahead %v", s, f, ahead)
		}
		for _, m := range more {
			if _, again := Parse(s + m); again != f {
				t.Fatalf("Parse(%q) = %v, with %q behind %v", s, f, m, again)
			}
		}
	}
}

// A text that falls short can be ended: by what it waits for.
func TestShortCanBeEnded(t *testing.T) {
	ends := sample.Texts([]string{")", "]", "é", "~"}, 5)
search:
	for _, s := range sample.Texts([]string{"a", "(", "[", "|", `\`, "-", "^"}, 4) {
		if _, f := Parse(s); f.Err != api.ErrShort {
			continue
		}
		for _, e := range ends {
			if _, f := Parse(s + e); f.Err == api.OK {
				continue search
			}
		}
		t.Fatalf("nothing ends %q", s)
	}
}
