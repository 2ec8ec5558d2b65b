package gram

import (
	"regexp"
	"slices"
	"strconv"
	"strings"
	"testing"

	"bramble/api"
	"bramble/sample"
)

// checkBody holds what Body tells of a text against what it should.
func checkBody(t *testing.T, s string, want api.Gx, f api.Fault) {
	t.Helper()
	if f != (api.Fault{}) {
		want = api.Gx{}
	}
	if got, g := Body(s); !sameBody(got, want) || g != f {
		t.Errorf("Body(%q) = %v, %v, not %v, %v", s, got, g, want, f)
	}
}

func TestBodyTold(t *testing.T) {
	a, b, c := name("a"), name("b"), name("c")
	for _, x := range []struct {
		s    string
		want api.Gx
	}{
		{"", cat()},
		{"   ", cat()},
		{"()", cat()},
		{"( ( ) )", cat()},
		{"a", a},
		{" a ", a},
		{"(a)", a},
		{"((a))", a},
		{"a b", cat(a, b)},
		{"(a b)", cat(a, b)},
		{"a b c", cat(a, b, c)},
		{"(a b) c", cat(cat(a, b), c)},
		{"a (b c)", cat(a, cat(b, c))},
		{"a ()", cat(a, cat())},
		{"() a", cat(cat(), a)},
		{"()()", cat(cat(), cat())},
		{"a|b", alt(a, b)},
		{"a | b | c", alt(a, b, c)},
		{"(a | b) | c", alt(alt(a, b), c)},
		{"a | (b | c)", alt(a, alt(b, c))},
		{"a b | c", alt(cat(a, b), c)},
		{"a (b | c)", cat(a, alt(b, c))},
		{"a |", alt(a, cat())},
		{"| a", alt(cat(), a)},
		{"a || b", alt(a, cat(), b)},
		{"|", alt(cat(), cat())},
		{"||", alt(cat(), cat(), cat())},
		{"(|)", alt(cat(), cat())},
		{"(|a|)", alt(cat(), a, cat())},
		{"a*", star(a)},
		{"a +", plus(a)},
		{"a?", opt(a)},
		{"a* b", cat(star(a), b)},
		{"(a b)*", star(cat(a, b))},
		{"(a | b)+", plus(alt(a, b))},
		{"()?", opt(cat())},
		{"(a*)*", star(star(a))},
		{"((a?)+)*", star(plus(opt(a)))},
		{"x:a", field("x", a)},
		{"x : a", field("x", a)},
		{"x:a*", field("x", star(a))},
		{"(x:a)*", star(field("x", a))},
		{"x:(a b)", field("x", cat(a, b))},
		{"x:(a | b)?", field("x", opt(alt(a, b)))},
		{"x:()", field("x", cat())},
		{"x:(y:a)", field("x", field("y", a))},
		{"a x:b", cat(a, field("x", b))},
		{"x:a b", cat(field("x", a), b)},
		{"x:a y:b", cat(field("x", a), field("y", b))},
		{"a=b", alias(a, "b")},
		{"a = b", alias(a, "b")},
		{"a=b c", cat(alias(a, "b"), c)},
		{"a b=c", cat(a, alias(b, "c"))},
		{"a=b x:c", cat(alias(a, "b"), field("x", c))},
		{"x:a=b", alias(field("x", a), "b")},
		{"x:a*=b", alias(field("x", star(a)), "b")},
		{"x:(a=b)", field("x", alias(a, "b"))},
		{"(a=b)=c", alias(alias(a, "b"), "c")},
		{"(a=b)*", star(alias(a, "b"))},
		{"a*=b", alias(star(a), "b")},
		{"(a b)=c", alias(cat(a, b), "c")},
		{"()=c", alias(cat(), "c")},
		{"%1 a", prec(1, a)},
		{"%1a", prec(1, a)},
		{"%1", prec(1, cat())},
		{"%1 ()", prec(1, cat())},
		{"%1 (a b)", prec(1, cat(a, b))},
		{"%1 a b", prec(1, cat(a, b))},
		{"%1 a | b", alt(prec(1, a), b)},
		{"a | %1 b | %2", alt(a, prec(1, b), prec(2, cat()))},
		{"%1 (%2 a)", prec(1, prec(2, a))},
		{"%1 (a | b)", prec(1, alt(a, b))},
		{"(%1 a)", prec(1, a)},
		{"(%1 a) b", cat(prec(1, a), b)},
		{"(%1 a)*", star(prec(1, a))},
		{"%1 x:a=b", prec(1, alias(field("x", a), "b"))},
		{"a b* | %2 x:c", alt(cat(a, star(b)), prec(2, field("x", c)))},
		{`"a"`, lit("a")},
		{`"a""b"`, cat(lit("a"), lit("b"))},
		{`x:"a"*=b`, alias(field("x", star(lit("a"))), "b")},
		{`"(a"(a"|")`, cat(lit("(a"), cat(a, lit("|")))},
		{`a"b"c`, cat(a, lit("b"), c)},
		{`a(b)c`, cat(a, b, c)},
		{`a*b+c?`, cat(star(a), plus(b), opt(c))},
		{`%-5"b"|%0a=b"c"|x:(y:b)z:c`, alt(prec(-5, lit("b")), prec(0, cat(alias(a, "b"), lit("c"))), cat(field("x", field("y", b)), field("z", c)))},
		{"  a   b  *  =  c  |  %12   x   :   (   a   )   +   ", alt(cat(a, alias(star(b), "c")), prec(12, field("x", plus(a))))},
	} {
		checkBody(t, x.s, x.want, api.Fault{})
	}
}

func TestBodyOfNames(t *testing.T) {
	long := strings.Repeat("n", 32)
	for _, s := range []string{"a", "Z", "_", "_9", "a0Z_", long, "_" + long[:30] + "9"} {
		checkBody(t, s, name(s), api.Fault{})
		checkBody(t, s+":"+s+"="+s, alias(field(s, name(s)), s), api.Fault{})
	}
	for _, c := range []struct {
		s string
		f api.Fault
	}{
		{long + "n", fault(api.ErrLong, 0)},
		{"  " + long + "9 ", fault(api.ErrLong, 2)},
		{"a " + long + "n", fault(api.ErrLong, 2)},
		{long + long + long, fault(api.ErrLong, 0)},
		{"a=" + long + "n", fault(api.ErrLong, 2)},
		{long + "n:a", fault(api.ErrLong, 0)},
		{"x:" + long + "n", fault(api.ErrLong, 2)},
		{"a = = " + long + "n", fault(api.ErrForm, 4)},
		{"a:*" + long + "n", fault(api.ErrForm, 2)},
		{"(a):" + long + "n", fault(api.ErrForm, 3)},
		{long + "n 1", fault(api.ErrLong, 0)},
		{"1" + long + "n", fault(api.ErrForm, 0)},
	} {
		checkBody(t, c.s, api.Gx{}, c.f)
	}
}

func TestBodyOfLiterals(t *testing.T) {
	long := strings.Repeat(" ~", 16)
	for _, c := range []struct {
		s, want string
	}{
		{`"a"`, "a"},
		{`" "`, " "},
		{`"~"`, "~"},
		{`"|"`, "|"},
		{`"\""`, `"`},
		{`"\\"`, `\`},
		{`"\\\""`, `\"`},
		{`"a\"b\\c"`, `a"b\c`},
		{`"a\\"`, `a\`},
		{`"` + long + `"`, long},
		{`"` + strings.Repeat(`\"`, 32) + `"`, strings.Repeat(`"`, 32)},
	} {
		checkBody(t, c.s, lit(c.want), api.Fault{})
		checkBody(t, c.s+c.s, cat(lit(c.want), lit(c.want)), api.Fault{})
	}
	for _, c := range []struct {
		s string
		f api.Fault
	}{
		{`""`, fault(api.ErrForm, 1)},
		{`a "" b`, fault(api.ErrForm, 3)},
		{`"" "`, fault(api.ErrForm, 1)},
		{`"` + long + `a"`, fault(api.ErrLong, 0)},
		{`a "` + long + `a"`, fault(api.ErrLong, 2)},
		{`"` + strings.Repeat(`\\`, 33) + `"`, fault(api.ErrLong, 0)},
		{`"`, fault(api.ErrShort, 1)},
		{`a "`, fault(api.ErrShort, 3)},
		{`"a`, fault(api.ErrShort, 2)},
		{`"a\`, fault(api.ErrShort, 3)},
		{`"a\"`, fault(api.ErrShort, 4)},
		{`"a\\`, fault(api.ErrShort, 4)},
		{`"\`, fault(api.ErrShort, 2)},
		{`"a" b"`, fault(api.ErrShort, 6)},
		{`"` + long, fault(api.ErrShort, 33)},
		{`"` + long + `\`, fault(api.ErrShort, 34)},
		{`"` + long + `a`, fault(api.ErrLong, 0)},
		{`"` + long + `a\`, fault(api.ErrLong, 0)},
		{`"` + long + `aa` + "\n", fault(api.ErrForm, 35)},
		{`"` + long + `aa\a"`, fault(api.ErrForm, 36)},
		{`"\a"`, fault(api.ErrForm, 2)},
		{`"a\ "`, fault(api.ErrForm, 3)},
		{`"a\n"`, fault(api.ErrForm, 3)},
		{"\"a\\\n\"", fault(api.ErrForm, 3)},
		{"\"a\n\"", fault(api.ErrForm, 2)},
		{"\"a\t\n\"", fault(api.ErrForm, 2)},
		{"\"é\"", fault(api.ErrForm, 1)},
		// Read wholly ahead of being judged, where none may stand.
		{`a:= "`, fault(api.ErrForm, 2)},
		{`a="`, fault(api.ErrShort, 3)},
		{`a=""`, fault(api.ErrForm, 3)},
		{`a="b`, fault(api.ErrShort, 4)},
		{`a="b"`, fault(api.ErrForm, 2)},
		{`a="` + long + `b"`, fault(api.ErrLong, 2)},
		{`a="\b"`, fault(api.ErrForm, 4)},
	} {
		checkBody(t, c.s, api.Gx{}, c.f)
	}
}

// Of all bytes which ones may begin a sign, stand in a literal, and behind a backslash there.
func TestBodyOfEveryByte(t *testing.T) {
	const begins = " abcdefghijklmnopqrstuvwxyzABCDEFGHIJKLMNOPQRSTUVWXYZ_\"()|*+?=:%"
	for n := range 256 {
		c := string([]byte{byte(n)})
		if !strings.Contains(begins, c) {
			checkBody(t, c, api.Gx{}, fault(api.ErrForm, 0))
			checkBody(t, "a | "+c+" 1", api.Gx{}, fault(api.ErrForm, 4))
			// Also where the next sign could be wrong by its kind alone.
			checkBody(t, "a:"+c, api.Gx{}, fault(api.ErrForm, 2))
			checkBody(t, "a=b"+" "+c, api.Gx{}, fault(api.ErrForm, 4))
		}
		if c != `"` && c != `\` {
			if n >= 32 && n <= 126 {
				checkBody(t, `"`+c+`"`, lit(c), api.Fault{})
			} else {
				checkBody(t, `"`+c+`"`, api.Gx{}, fault(api.ErrForm, 1))
				checkBody(t, `"a`+c, api.Gx{}, fault(api.ErrForm, 2))
			}
			checkBody(t, `"a\`+c+`"`, api.Gx{}, fault(api.ErrForm, 3))
			checkBody(t, `"a\`+c, api.Gx{}, fault(api.ErrForm, 3))
		}
	}
}

func TestBodyOfNumbers(t *testing.T) {
	for n := -99; n <= 99; n++ {
		s := strconv.Itoa(n)
		checkBody(t, "%"+s, prec(n, cat()), api.Fault{})
		checkBody(t, "%"+s+"a", prec(n, name("a")), api.Fault{})
		checkBody(t, " %"+s+`"1"`, prec(n, lit("1")), api.Fault{})
	}
	for _, c := range []struct {
		s string
		f api.Fault
	}{
		{"%", fault(api.ErrShort, 1)},
		{"a | %", fault(api.ErrShort, 5)},
		{"%-", fault(api.ErrShort, 2)},
		{"%a", fault(api.ErrForm, 1)},
		{"% 1", fault(api.ErrForm, 1)},
		{"%-a", fault(api.ErrForm, 2)},
		{"%- 1", fault(api.ErrForm, 2)},
		{"%--1", fault(api.ErrForm, 2)},
		{"%+1", fault(api.ErrForm, 1)},
		{"%%1", fault(api.ErrForm, 1)},
		{"a | %100", fault(api.ErrForm, 4)},
		{"%100", fault(api.ErrForm, 0)},
		{"%-100", fault(api.ErrForm, 0)},
		{"%123456789012345678901234567890", fault(api.ErrForm, 0)},
		{"%00", fault(api.ErrForm, 0)},
		{"%01", fault(api.ErrForm, 0)},
		{"%001", fault(api.ErrForm, 0)},
		{"%-0", fault(api.ErrForm, 0)},
		{"%-00", fault(api.ErrForm, 0)},
		{"%-01", fault(api.ErrForm, 0)},
		{"%-0a", fault(api.ErrForm, 0)},
		{"%1 2", fault(api.ErrForm, 3)},
		{"%1-", fault(api.ErrForm, 2)},
		{"%1.", fault(api.ErrForm, 2)},
		{"%1%1", fault(api.ErrForm, 2)},
		{"%1 %2", fault(api.ErrForm, 3)},
		{"a %1", fault(api.ErrForm, 2)},
		{"a %100", fault(api.ErrForm, 2)},
		{"a %", fault(api.ErrShort, 3)},
		{"a %x", fault(api.ErrForm, 3)},
		{"x:%1", fault(api.ErrForm, 2)},
		{"a=%1", fault(api.ErrForm, 2)},
	} {
		checkBody(t, c.s, api.Gx{}, c.f)
	}
}

func TestBodyMisplaced(t *testing.T) {
	for _, c := range []struct {
		s string
		f api.Fault
	}{
		{")", fault(api.ErrForm, 0)},
		{"a)", fault(api.ErrForm, 1)},
		{"(a))", fault(api.ErrForm, 3)},
		{"*", fault(api.ErrForm, 0)},
		{"+", fault(api.ErrForm, 0)},
		{"?", fault(api.ErrForm, 0)},
		{"=", fault(api.ErrForm, 0)},
		{":", fault(api.ErrForm, 0)},
		{"a**", fault(api.ErrForm, 2)},
		{"a*+", fault(api.ErrForm, 2)},
		{"a?*", fault(api.ErrForm, 2)},
		{"a+?", fault(api.ErrForm, 2)},
		{"a=b*", fault(api.ErrForm, 3)},
		{"a=b=c", fault(api.ErrForm, 3)},
		{"a==b", fault(api.ErrForm, 2)},
		{"a=(b)", fault(api.ErrForm, 2)},
		{"a=b:c", fault(api.ErrForm, 3)},
		{"a*:b", fault(api.ErrForm, 2)},
		{"a::b", fault(api.ErrForm, 2)},
		{"x:y:a", fault(api.ErrForm, 3)},
		{"x:*", fault(api.ErrForm, 2)},
		{"x:|", fault(api.ErrForm, 2)},
		{"x:=a", fault(api.ErrForm, 2)},
		{"(x:)", fault(api.ErrForm, 3)},
		{"(a=)", fault(api.ErrForm, 3)},
		{"(a):b", fault(api.ErrForm, 3)},
		{`"a":b`, fault(api.ErrForm, 3)},
		{"|*", fault(api.ErrForm, 1)},
		{"(*)", fault(api.ErrForm, 1)},
		{"%1*", fault(api.ErrForm, 2)},
		{"%1=a", fault(api.ErrForm, 2)},
		{"%1:a", fault(api.ErrForm, 2)},
		{"a:", fault(api.ErrShort, 2)},
		{"a: ", fault(api.ErrShort, 3)},
		{"a=", fault(api.ErrShort, 2)},
		{"a=   ", fault(api.ErrShort, 5)},
		{"(", fault(api.ErrShort, 1)},
		{"(  ", fault(api.ErrShort, 3)},
		{"(a", fault(api.ErrShort, 2)},
		{"(a|", fault(api.ErrShort, 3)},
		{"((a)", fault(api.ErrShort, 4)},
		{"x:(", fault(api.ErrShort, 3)},
		{"(x:", fault(api.ErrShort, 3)},
		// Of two faults the first sign's is told.
		{"a:) 1", fault(api.ErrForm, 2)},
		{`a ) "`, fault(api.ErrForm, 2)},
		{`) ` + strings.Repeat("n", 33), fault(api.ErrForm, 0)},
		{"1 )", fault(api.ErrForm, 0)},
		{"(1", fault(api.ErrForm, 1)},
	} {
		checkBody(t, c.s, api.Gx{}, c.f)
	}
}

func TestBodyCountsParentheses(t *testing.T) {
	open, shut := strings.Repeat("(", 16), strings.Repeat(")", 16)
	for _, c := range []struct {
		s    string
		want api.Gx
		f    api.Fault
	}{
		{open + shut, cat(), api.Fault{}},
		{open + "a" + shut, name("a"), api.Fault{}},
		{open + "a" + shut + "|" + open + "b" + shut, alt(name("a"), name("b")), api.Fault{}},
		{open + "()" + shut, api.Gx{}, fault(api.ErrDeep, 16)},
		{open + "a (" + shut, api.Gx{}, fault(api.ErrDeep, 18)},
		{open + "((((", api.Gx{}, fault(api.ErrDeep, 16)},
		{open + "(1", api.Gx{}, fault(api.ErrDeep, 16)},
		{open + "(*", api.Gx{}, fault(api.ErrDeep, 16)},
		{open + `("`, api.Gx{}, fault(api.ErrDeep, 16)},
		{open + "*(", api.Gx{}, fault(api.ErrForm, 16)},
		{open + "a=(", api.Gx{}, fault(api.ErrForm, 18)},
		{open + "1(", api.Gx{}, fault(api.ErrForm, 16)},
		{open, api.Gx{}, fault(api.ErrShort, 16)},
		{open + "a" + shut[1:], api.Gx{}, fault(api.ErrShort, 32)},
		{open + shut + ")", api.Gx{}, fault(api.ErrForm, 32)},
		{open + "a" + shut + "(" + open + shut + ")", api.Gx{}, fault(api.ErrDeep, 49)},
		{open + `"("` + shut, lit("("), api.Fault{}},
	} {
		checkBody(t, c.s, c.want, c.f)
	}
	for n := range 18 {
		s := strings.Repeat("a (", n) + "b" + strings.Repeat(")", n)
		want := api.Fault{}
		if n > 16 {
			want = fault(api.ErrDeep, 50)
		}
		checkBody(t, s, nested(n, name("b")), want)
	}
}

func TestBodyCountsParts(t *testing.T) {
	names := func(n int) string { return strings.Repeat("a ", n) }
	checkBody(t, names(399), many(400), api.Fault{})
	checkBody(t, names(400), api.Gx{}, fault(api.ErrMany, 0))
	checkBody(t, names(4000), api.Gx{}, fault(api.ErrMany, 0))
	checkBody(t, "a|("+names(397)+")", alt(name("a"), many(398)), api.Fault{})
	checkBody(t, "  a|("+names(398)+")", api.Gx{}, fault(api.ErrMany, 0))
	checkBody(t, strings.Repeat("|", 398), alt(slices.Repeat([]api.Gx{cat()}, 399)...), api.Fault{})
	checkBody(t, strings.Repeat("|", 399), api.Gx{}, fault(api.ErrMany, 0))
	checkBody(t, strings.Repeat("(a)*", 199), cat(slices.Repeat([]api.Gx{star(name("a"))}, 199)...), api.Fault{})
	checkBody(t, strings.Repeat("(a)*", 200), api.Gx{}, fault(api.ErrMany, 0))
	// Behind all: what else is wrong is told, however far it stands.
	checkBody(t, names(4000)+"1", api.Gx{}, fault(api.ErrForm, 8000))
	checkBody(t, names(4000)+"(", api.Gx{}, fault(api.ErrShort, 8001))
	checkBody(t, names(4000)+")", api.Gx{}, fault(api.ErrForm, 8000))
	checkBody(t, names(4000)+strings.Repeat("(", 17), api.Gx{}, fault(api.ErrDeep, 8016))
	checkBody(t, names(4000)+strings.Repeat("n", 33), api.Gx{}, fault(api.ErrLong, 8000))
}

func TestBodyCountsBytes(t *testing.T) {
	checkBody(t, "a"+strings.Repeat(" ", 8191), name("a"), api.Fault{})
	checkBody(t, strings.Repeat(" ", 8192), cat(), api.Fault{})
	checkBody(t, "a"+strings.Repeat(" ", 8192), api.Gx{}, fault(api.ErrLong, 8192))
	checkBody(t, strings.Repeat(")", 8192), api.Gx{}, fault(api.ErrForm, 0))
	checkBody(t, strings.Repeat(")", 8193), api.Gx{}, fault(api.ErrLong, 8192))
	checkBody(t, strings.Repeat("\xff", 100000), api.Gx{}, fault(api.ErrLong, 8192))
	checkBody(t, strings.Repeat(" ", 8191)+"(", api.Gx{}, fault(api.ErrShort, 8192))
	checkBody(t, strings.Repeat("(", 8192), api.Gx{}, fault(api.ErrDeep, 16))
}

// Patterns by which right texts are known: signs with nothing between them, what stood in parentheses a @ and a number.
var (
	itemForm        = `(?:([a-z]+):)?([a-z]+\b|"[^"]*"|@[0-9]+;)([*+?])?(?:=([a-z]+))?`
	alternativeForm = `(?:%-?[0-9]+)?(?: ?` + itemForm + `)* ?`
	oneItem         = regexp.MustCompile(itemForm)
	onlyRight       = regexp.MustCompile(`^` + alternativeForm + `(?:\|` + alternativeForm + `)*$`)
	innermost       = regexp.MustCompile(`\(([^()]*)\)`)
	nextToSign      = regexp.MustCompile(` *([()|*+?=:]) *`)
)

// takenByPatterns is the body of a text by the patterns, put together from the innermost parentheses on; false, if it is none.
func takenByPatterns(s string) (api.Gx, bool) {
	s = strings.TrimSpace(nextToSign.ReplaceAllString(s, "$1"))
	var met []api.Gx
	for {
		at := innermost.FindStringSubmatchIndex(s)
		if at == nil {
			break
		}
		within := s[at[2]:at[3]]
		if !onlyRight.MatchString(within) {
			return api.Gx{}, false
		}
		met = append(met, alternativesByPatterns(within, met))
		s = s[:at[0]] + "@" + strconv.Itoa(len(met)-1) + ";" + s[at[1]:]
	}
	if !onlyRight.MatchString(s) {
		return api.Gx{}, false
	}
	return alternativesByPatterns(s, met), true
}

func alternativesByPatterns(s string, met []api.Gx) api.Gx {
	var l []api.Gx
	for _, one := range strings.Split(s, "|") {
		var items []api.Gx
		for _, m := range oneItem.FindAllStringSubmatch(one, -1) {
			items = append(items, itemByPattern(m, met))
		}
		x := cat(items...)
		if len(items) == 1 {
			x = items[0]
		}
		if strings.HasPrefix(one, "%") {
			n, _ := strconv.Atoi(regexp.MustCompile(`^%(-?[0-9]+)`).FindStringSubmatch(one)[1])
			x = prec(n, x)
		}
		l = append(l, x)
	}
	if len(l) == 1 {
		return l[0]
	}
	return alt(l...)
}

func itemByPattern(m []string, met []api.Gx) api.Gx {
	var x api.Gx
	switch m[2][0] {
	case '@':
		n, _ := strconv.Atoi(m[2][1 : len(m[2])-1])
		x = met[n]
	case '"':
		x = lit(m[2][1 : len(m[2])-1])
	default:
		x = name(m[2])
	}
	switch m[3] {
	case "*":
		x = star(x)
	case "+":
		x = plus(x)
	case "?":
		x = opt(x)
	}
	if m[1] != "" {
		x = field(m[1], x)
	}
	if m[4] != "" {
		x = alias(x, m[4])
	}
	return x
}

// goesOn tells by the patterns whether something can follow a text so that it is right: what is open is shut, perhaps behind a name.
func goesOn(s string) bool {
	n := strings.Count(s, "(") - strings.Count(s, ")")
	if n < 0 {
		return false
	}
	shut := strings.Repeat(")", n)
	_, ok := takenByPatterns(s + shut)
	if !ok {
		_, ok = takenByPatterns(s + " c" + shut)
	}
	return ok
}

// Every row of up to six signs of which all but the last one may stand there.
func TestBodyByPatterns(t *testing.T) {
	signs := []string{"a", `"b"`, "(", ")", "|", "*", "=", ":", "%1"}
	rows := []string{""}
	for n := range 6 {
		var next []string
		for _, s := range rows {
			for _, sign := range signs {
				row := strings.TrimSpace(s + " " + sign)
				at := len(row) - len(sign)
				x, right := takenByPatterns(row)
				switch {
				case right:
					checkBody(t, row, x, api.Fault{})
					checkBody(t, strings.ReplaceAll(row, " ", "   ")+" ", x, api.Fault{})
				case goesOn(row):
					checkBody(t, row, api.Gx{}, fault(api.ErrShort, len(row)))
					checkBody(t, row+"  ", api.Gx{}, fault(api.ErrShort, len(row)+2))
				default:
					// What follows is not even looked at.
					for _, behind := range []string{"", " a", ` "`, " 1"} {
						checkBody(t, row+behind, api.Gx{}, fault(api.ErrForm, at))
					}
					continue
				}
				if n < 5 {
					next = append(next, row)
				}
				// A sign that is wrong within itself is told, whatever it is.
				checkBody(t, row+" 1", api.Gx{}, fault(api.ErrForm, len(row)+1))
				checkBody(t, row+` "`, api.Gx{}, fault(api.ErrShort, len(row)+2))
				checkBody(t, row+` %123`, api.Gx{}, fault(api.ErrForm, len(row)+1))
			}
		}
		rows = next
		if t.Failed() {
			t.Fatalf("with %d signs", n+1)
		}
	}
}

// The patterns take what they should: else they would judge nothing.
func TestPatterns(t *testing.T) {
	x, ok := takenByPatterns(`a b * | %1 x : ( a | "b" ) = c`)
	want := alt(cat(name("a"), star(name("b"))), prec(1, alias(field("x", alt(name("a"), lit("b"))), "c")))
	if !ok || !sameBody(x, want) {
		t.Errorf("%v, %v", x, ok)
	}
	for _, s := range []string{"a = b *", "a :", "( a", "a )", "* a", "% 1 a", "a %1", "a : b : c"} {
		if _, ok := takenByPatterns(s); ok {
			t.Errorf("%q is right", s)
		}
	}
}

// Any bytes whatever: what is told is fit, or a fault within the text.
func TestBodyOfAnyBytes(t *testing.T) {
	pieces := []string{"a", "b1", `"`, `\`, "(", ")", "|", "*", "+", "?", "=", ":", "%", "-", "1", "0", " ", "\n", "\xff", "(a", "a)", "x:", "%2 "}
	seed := sample.Seed(7)
	right := 0
	for range 200000 {
		var s string
		for range seed.Below(9) {
			s += pieces[seed.Below(len(pieces))]
		}
		x, f := Body(s)
		switch {
		case f == (api.Fault{}):
			right++
			again, g := Body(Text(x))
			if !FitBody(x) || g != f || !sameBody(x, again) {
				t.Fatalf("Body(%q) = %v, which is written %q", s, x, Text(x))
			}
		case f.At < 0 || f.At > len(s) || f.At == len(s) && f.Err != api.ErrShort || !sameBody(x, api.Gx{}):
			t.Fatalf("Body(%q) = %v, %v", s, x, f)
		}
	}
	if right < 1000 {
		t.Errorf("only %d texts were right", right)
	}
}
