package gram

import (
	"slices"
	"strconv"
	"strings"
	"testing"

	"bramble/api"
	"bramble/rex"
	"bramble/sample"
	"bramble/vm"
)

// checkParse holds what Parse tells of a text against what it should.
func checkParse(t *testing.T, s string, want api.Gram, line int, f api.Fault) {
	t.Helper()
	if f != (api.Fault{}) {
		want = api.Gram{}
	}
	if g, l, h := Parse(s); !Same(g, want) || l != line || h != f {
		t.Errorf("Parse(%q) = %v, %d, %v, not %v, %d, %v", s, g, l, h, want, line, f)
	}
}

// gram is a grammar of a name, its tokens, and one rule r of nothing.
func gram(s string, l ...api.Token) api.Gram {
	return api.Gram{Name: s, Tokens: l, Rules: []api.Rule{rule("r", cat())}}
}

func TestParseTold(t *testing.T) {
	long := strings.Repeat("n", 32)
	two := api.Gram{Name: "g", Tokens: []api.Token{token("t", "a")}, Rules: []api.Rule{rule("r", cat(name("t"), name("u"))), rule("u", lit("+"))}}
	for _, c := range []struct {
		s    string
		want api.Gram
	}{
		{"grammar g\nrule r ", gram("g")},
		{"grammar g\nrule r \n", gram("g")},
		{"\n\ngrammar g\n\nrule r \n\n\n", gram("g")},
		{"#\n# token\n#grammar x\ngrammar g\n# rule\nrule r \n#", gram("g")},
		{"grammar " + long + "\nrule r \n", gram(long)},
		{"grammar g\ntoken t a\nrule r t u\nrule u \"+\"\n", two},
		{"grammar g\nrule r t u\ntoken t a\nrule u \"+\"", two},
		{"grammar g\nrule r   t   u   \nrule u \"+\"\n\n#\ntoken t a", two},
		{"grammar grammar\ntoken token token\nskip skip skip\nrule r \n", gram("grammar", token("token", "token"), skipped(token("skip", "skip")))},
		{"grammar g\ntoken t \nrule r \n", gram("g", token("t", ""))},
		{"grammar g\ntoken t  \nrule r \n", gram("g", token("t", " "))},
		{"grammar g\ntoken t  a \nrule r \n", gram("g", token("t", " a "))},
		{"grammar g\ntoken t #\nrule r \n", gram("g", token("t", "#"))},
		{"grammar g\ntoken t \r\nrule r \n", gram("g", token("t", `\r`))},
		{"grammar g\ntoken t é\\n\nrule r \n", gram("g", token("t", `é\n`))},
		{"grammar g\nscan s yes\nrule r \n", gram("g", scan("s", "yes"))},
		{"grammar g\nscan s   yes ;no \nrule r \n", gram("g", scan("s", "yes; no"))},
		{"grammar g\nskipscan s char 97 97 3; goto 0; no; yes\nrule r ", gram("g", skipped(scan("s", "char 97 97 3; goto 0; no; yes")))},
		{"grammar g\ntoken r a\ntoken r a\nscan r no\nrule r ", gram("g", token("r", "a"), token("r", "a"), scan("r", "no"))},
		{"grammar g\ntoken t [a-z]+\nskip s \\s+\nscan p char 97 97 2; yes\nskipscan q char 98 98 2; yes\nrule r t u*\nrule u \"+\" | \n", small()},
	} {
		checkParse(t, c.s, c.want, 0, api.Fault{})
	}
}

func TestParseOfWrongLines(t *testing.T) {
	long := strings.Repeat("n", 33)
	for _, c := range []struct {
		s  string
		at int
		e  api.Errno
	}{
		// The first word is none, or another one than may stand there.
		{" ", 0, api.ErrForm},
		{"  ", 0, api.ErrForm},
		{" token t a", 0, api.ErrForm},
		{" # nothing", 0, api.ErrForm},
		{"\t", 0, api.ErrForm},
		{"\r", 0, api.ErrForm},
		{"x", 0, api.ErrForm},
		{"x y z", 0, api.ErrForm},
		{"tokens t a", 0, api.ErrForm},
		{"toke t a", 0, api.ErrForm},
		{"Token t a", 0, api.ErrForm},
		{"token\tt a", 0, api.ErrForm},
		{"token\rt a", 0, api.ErrForm},
		{"scanskip s yes", 0, api.ErrForm},
		{"rules r ", 0, api.ErrForm},
		{"\x00", 0, api.ErrForm},
		{"grammar", 0, api.ErrForm},
		{"grammar h", 0, api.ErrForm},
		{"grammar g", 0, api.ErrForm},
		{"grammar 9 9", 0, api.ErrForm},
		// No blank follows.
		{"token", 5, api.ErrShort},
		{"skip", 4, api.ErrShort},
		{"scan", 4, api.ErrShort},
		{"skipscan", 8, api.ErrShort},
		{"rule", 4, api.ErrShort},
		// No name.
		{"token ", 6, api.ErrForm},
		{"token  ", 6, api.ErrForm},
		{"token  t a", 6, api.ErrForm},
		{"skip 9 a", 5, api.ErrForm},
		{"scan a-b yes", 5, api.ErrForm},
		{"skipscan é yes", 9, api.ErrForm},
		{"rule  r a", 5, api.ErrForm},
		{"rule " + long, 5, api.ErrForm},
		{"rule " + long + " )", 5, api.ErrForm},
		{"rule r: a", 5, api.ErrForm},
		{"rule r\ta", 5, api.ErrForm},
		{"rule 9", 5, api.ErrForm},
		// Nothing follows the name.
		{"token t", 7, api.ErrShort},
		{"skip t", 6, api.ErrShort},
		{"scan t", 6, api.ErrShort},
		{"skipscan t", 10, api.ErrShort},
		{"rule r", 6, api.ErrShort},
		// What follows has a fault.
		{"token t a**", 10, api.ErrForm},
		{"token t )", 8, api.ErrForm},
		{"token t (", 9, api.ErrShort},
		{"token t  [", 10, api.ErrShort},
		{"skip t \xff", 7, api.ErrForm},
		{"skip tt a[b-a]", 12, api.ErrForm},
		{"token t " + strings.Repeat("(", 17), 24, api.ErrDeep},
		{"token t " + strings.Repeat("a", 401), 408, api.ErrMany},
		{"token t " + strings.Repeat("a", 401) + ")", 408, api.ErrMany},
		{"scan t ", 7, api.ErrShort},
		{"scan t  ", 8, api.ErrShort},
		{"scan t yes;", 11, api.ErrShort},
		{"scan t yes; x", 12, api.ErrForm},
		{"scan t yes;x", 11, api.ErrForm},
		{"skipscan t goto 2", 16, api.ErrForm},
		{"skipscan t " + strings.Repeat("no;", 64) + "yes", 11 + 192, api.ErrMany},
		{"rule r )", 7, api.ErrForm},
		{"rule r a:", 9, api.ErrShort},
		{"rule r a | 1", 11, api.ErrForm},
		{"rule r   \"", 10, api.ErrShort},
		{"rule rr \"\"", 9, api.ErrForm},
		{"rule r a " + long, 9, api.ErrLong},
		{"rule r " + strings.Repeat("(", 17), 23, api.ErrDeep},
		{"rule r " + strings.Repeat("a ", 400), 7, api.ErrMany},
		{"rule r a\r", 8, api.ErrForm},
		{"rule r a\tb", 8, api.ErrForm},
	} {
		f := fault(c.e, c.at)
		checkParse(t, "grammar g\n"+c.s, api.Gram{}, 2, f)
		checkParse(t, "grammar g\n"+c.s+"\n", api.Gram{}, 2, f)
		checkParse(t, "#\n\ngrammar g\nrule r \n\n#\n"+c.s+"\nrule r )\nx\n", api.Gram{}, 7, f)
		checkParse(t, "grammar g\nrule r \n# "+c.s+"\n", gram("g"), 0, api.Fault{})
		// Ahead of the line grammar it is wrong by its word alone.
		if !strings.HasPrefix(c.s, "grammar") {
			checkParse(t, c.s, api.Gram{}, 1, fault(api.ErrForm, 0))
			checkParse(t, "\n"+c.s+"\ngrammar g\nrule r \n", api.Gram{}, 2, fault(api.ErrForm, 0))
		}
	}
}

func TestParseOfLineGrammar(t *testing.T) {
	long := strings.Repeat("n", 33)
	for _, c := range []struct {
		s  string
		at int
		e  api.Errno
	}{
		{" ", 0, api.ErrForm},
		{"grammars g", 0, api.ErrForm},
		{"Grammar g", 0, api.ErrForm},
		{" grammar g", 0, api.ErrForm},
		{"token t a", 0, api.ErrForm},
		{"rule r ", 0, api.ErrForm},
		{"scan", 0, api.ErrForm},
		{"grammar", 7, api.ErrShort},
		{"grammar ", 8, api.ErrForm},
		{"grammar  ", 8, api.ErrForm},
		{"grammar  g", 8, api.ErrForm},
		{"grammar 9", 8, api.ErrForm},
		{"grammar 9 x", 8, api.ErrForm},
		{"grammar g\t", 8, api.ErrForm},
		{"grammar g\r", 8, api.ErrForm},
		{"grammar " + long, 8, api.ErrForm},
		{"grammar g ", 9, api.ErrForm},
		{"grammar gg x", 10, api.ErrForm},
		{"grammar g  ", 9, api.ErrForm},
	} {
		f := fault(c.e, c.at)
		checkParse(t, c.s, api.Gram{}, 1, f)
		checkParse(t, c.s+"\nrule r \n", api.Gram{}, 1, f)
		checkParse(t, "# grammar g\n\n"+c.s+"\ngrammar g\nrule r \n", api.Gram{}, 3, f)
	}
}

func TestParseOfTooLittle(t *testing.T) {
	for _, s := range []string{
		"", "\n", "\n\n\n", "#", "# grammar g\n", "\n#\n",
		"grammar g", "grammar g\n", "grammar g\n\n#\n", "grammar g\ntoken t a\nskip s b\nscan p yes\nskipscan q no\n", "grammar g\n# rule r a\n",
	} {
		checkParse(t, s, api.Gram{}, 0, fault(api.ErrShort, len(s)))
	}
}

func TestParseCountsBytes(t *testing.T) {
	const s = "grammar g\nrule r "
	fill := func(n int) string { return s + strings.Repeat(" ", n-len(s)) }
	checkParse(t, fill(8192), gram("g"), 0, api.Fault{})
	checkParse(t, fill(8193), api.Gram{}, 0, fault(api.ErrLong, 8192))
	checkParse(t, fill(100000), api.Gram{}, 0, fault(api.ErrLong, 8192))
	checkParse(t, fill(8191)+")", api.Gram{}, 2, fault(api.ErrForm, 8191-10))
	checkParse(t, strings.Repeat("x", 8192), api.Gram{}, 1, fault(api.ErrForm, 0))
	checkParse(t, strings.Repeat("x", 8193), api.Gram{}, 0, fault(api.ErrLong, 8192))
	checkParse(t, strings.Repeat("\n", 8192), api.Gram{}, 0, fault(api.ErrShort, 8192))
	checkParse(t, strings.Repeat("\n", 8193), api.Gram{}, 0, fault(api.ErrLong, 8192))
	checkParse(t, strings.Repeat("\n", 8191)+"x", api.Gram{}, 8192, fault(api.ErrForm, 0))
}

func TestParseCountsTokensAndRules(t *testing.T) {
	tokens := []string{"token t a\n", "skip t a\n", "scan t no\n", "skipscan t no\n"}
	lines, want := "grammar g\n", api.Gram{Name: "g"}
	for n := range 64 {
		lines += tokens[n%4] + "rule r a\n"
		want.Tokens = append(want.Tokens, []api.Token{token("t", "a"), skipped(token("t", "a")), scan("t", "no"), skipped(scan("t", "no"))}[n%4])
		want.Rules = append(want.Rules, rule("r", name("a")))
	}
	checkParse(t, lines, want, 0, api.Fault{})
	for _, s := range append(tokens, "rule r a\n", "token t )", "skip t (", "scan t ", "skipscan t x", "rule r )", "rule r "+strings.Repeat("a ", 500)) {
		checkParse(t, lines+s, api.Gram{}, 130, fault(api.ErrMany, 0))
	}
	// What is wrong ahead of what follows is told first.
	for _, c := range []struct {
		s string
		f api.Fault
	}{
		{"rules r a", fault(api.ErrForm, 0)},
		{"token", fault(api.ErrShort, 5)},
		{"token ", fault(api.ErrForm, 6)},
		{"token 9 a", fault(api.ErrForm, 6)},
		{"scan s", fault(api.ErrShort, 6)},
		{"rule", fault(api.ErrShort, 4)},
		{"rule r", fault(api.ErrShort, 6)},
		{"rule - a", fault(api.ErrForm, 5)},
		{"grammar g", fault(api.ErrForm, 0)},
	} {
		checkParse(t, lines+c.s, api.Gram{}, 130, c.f)
	}
	// 64 of the one leave room for the other.
	most := strings.Repeat("rule r a\n", 64)
	g := api.Gram{Name: "g", Rules: want.Rules}
	checkParse(t, "grammar g\n"+most, g, 0, api.Fault{})
	g.Tokens = []api.Token{token("t", "a")}
	checkParse(t, "grammar g\n"+most+"token t a\n", g, 0, api.Fault{})
	checkParse(t, "grammar g\n"+most+"token t a\nrule r a", api.Gram{}, 67, fault(api.ErrMany, 0))
	checkParse(t, "grammar g\n"+strings.Repeat("skip s a\n", 64)+"rule r \nscan s yes", api.Gram{}, 67, fault(api.ErrMany, 0))
}

func TestParseCountsParts(t *testing.T) {
	row := func(n int) string { return "rule r " + strings.Repeat("a ", n-1) + "\n" }
	grow := func(l ...int) api.Gram {
		g := api.Gram{Name: "g"}
		for _, n := range l {
			g.Rules = append(g.Rules, rule("r", many(n)))
		}
		return g
	}
	checkParse(t, "grammar g\n"+row(400), grow(400), 0, api.Fault{})
	checkParse(t, "grammar g\n"+row(401), api.Gram{}, 2, fault(api.ErrMany, 7))
	checkParse(t, "grammar g\n"+row(399)+row(1), grow(399, 1), 0, api.Fault{})
	checkParse(t, "grammar g\n"+row(400)+row(1), api.Gram{}, 3, fault(api.ErrMany, 0))
	checkParse(t, "grammar g\n"+row(1)+row(400), api.Gram{}, 3, fault(api.ErrMany, 0))
	checkParse(t, "grammar g\n"+row(1)+row(401), api.Gram{}, 3, fault(api.ErrMany, 7))
	checkParse(t, "grammar g\n"+row(100)+row(100)+row(100)+row(100), grow(100, 100, 100, 100), 0, api.Fault{})
	checkParse(t, "grammar g\n"+row(100)+"\n"+row(100)+row(100)+"token t a\n"+row(101), api.Gram{}, 7, fault(api.ErrMany, 0))
	// The fault of what follows is told ahead of it, and so is a line ahead.
	checkParse(t, "grammar g\n"+row(400)+"rule r a b )", api.Gram{}, 3, fault(api.ErrForm, 11))
	checkParse(t, "grammar g\n"+row(400)+"rule r (", api.Gram{}, 3, fault(api.ErrShort, 8))
	checkParse(t, "grammar g\n"+row(400)+"x\n"+row(3), api.Gram{}, 3, fault(api.ErrForm, 0))
	checkParse(t, "grammar g\n"+row(400)+row(3)+"x", api.Gram{}, 3, fault(api.ErrMany, 0))
}

// line is a line, and what is wrong with it behind the line grammar.
type line struct {
	s string
	f api.Fault
}

// Every row of up to four lines of some that are right, wrong, or say nothing: the first one that is wrong is told.
func TestParseOfAllRowsOfLines(t *testing.T) {
	all := []line{
		{"", api.Fault{}},
		{"# x", api.Fault{}},
		{"grammar g", fault(api.ErrForm, 0)},
		{"token t a", api.Fault{}},
		{"skipscan s yes", api.Fault{}},
		{"rule r ", api.Fault{}},
		{"rule r", fault(api.ErrShort, 6)},
		{"rule r *", fault(api.ErrForm, 7)},
		{" ", fault(api.ErrForm, 0)},
	}
	var parts []string
	for i := range all {
		parts = append(parts, strconv.Itoa(i))
	}
	for _, row := range sample.Texts(parts, 4) {
		var l []string
		want := api.Gram{}
		number, f := 0, api.Fault{}
		for i, c := range row {
			x := all[c-'0']
			l = append(l, x.s)
			if f != (api.Fault{}) || x.s == "" || x.s[0] == '#' {
				continue
			}
			switch {
			case want.Name == "" && x.s == "grammar g":
				want.Name = "g"
				continue
			case want.Name == "":
				f = fault(api.ErrForm, 0)
			default:
				f = x.f
			}
			if f != (api.Fault{}) {
				number = i + 1
			}
			switch x.s {
			case "token t a":
				want.Tokens = append(want.Tokens, token("t", "a"))
			case "skipscan s yes":
				want.Tokens = append(want.Tokens, skipped(scan("s", "yes")))
			case "rule r ":
				want.Rules = append(want.Rules, rule("r", cat()))
			}
		}
		s := strings.Join(l, "\n")
		little := f == (api.Fault{}) && (want.Name == "" || len(want.Rules) == 0)
		for _, end := range []string{"", "\n"} {
			g := f
			if little {
				g = fault(api.ErrShort, len(s+end))
			}
			checkParse(t, s+end, want, number, g)
		}
		if t.Failed() {
			t.FailNow()
		}
	}
}

// What follows is read just as rex, vm and Body read it, wherever it stands.
func TestParseOfWhatFollows(t *testing.T) {
	follows := sample.Texts([]string{"a", "(", ")", "|", "*", " ", "yes", ";", "1"}, 4)
	for _, s := range follows {
		x, f := rex.Parse(s)
		checkFollows(t, "token tt ", s, f, api.Token{Name: "tt", Rex: x})
		p, f := vm.Parse(s)
		checkFollows(t, "skipscan t ", s, f, api.Token{Name: "t", Prog: p, Skip: true})
		y, f := Body(s)
		want := api.Gram{Name: "g", Rules: []api.Rule{rule("rrr", y)}}
		if f.Err != api.OK {
			checkParse(t, "grammar g\nrule rrr "+s, want, 2, fault(f.Err, 9+f.At))
		} else {
			checkParse(t, "grammar g\nrule rrr "+s, want, 0, f)
		}
	}
}

func checkFollows(t *testing.T, ahead, s string, f api.Fault, want api.Token) {
	t.Helper()
	if f.Err != api.OK {
		checkParse(t, "grammar g\nrule r \n"+ahead+s, api.Gram{}, 3, fault(f.Err, len(ahead)+f.At))
		return
	}
	checkParse(t, "grammar g\nrule r \n"+ahead+s, gram("g", want), 0, f)
}

// Any lines whatever: what is told is fit, or a fault at a place of its line.
func TestParseOfAnyLines(t *testing.T) {
	pieces := []string{"grammar g\n", "rule r a | b\n", "token t a*\n", "scan s yes\n", "grammar", "rule", "skip", "skipscan ", " ", "a", "\n", "#", "(", ")", "yes", "x:", "\xff", "\x00"}
	seed := sample.Seed(5)
	right := 0
	for range 200000 {
		s := ""
		if seed.Below(5) > 0 {
			s = "grammar g\n"
		}
		for range seed.Below(9) {
			s += pieces[seed.Below(len(pieces))]
		}
		g, n, f := Parse(s)
		if f == (api.Fault{}) {
			right++
			if n != 0 || !Fit(g) {
				t.Fatalf("Parse(%q) = %v, %d", s, g, n)
			}
			continue
		}
		l := append([]string{s}, strings.Split(s, "\n")...)
		if !Same(g, api.Gram{}) || n < 0 || n >= len(l) || f.At < 0 || f.At > len(l[n]) {
			t.Fatalf("Parse(%q) = %v, %d, %v", s, g, n, f)
		}
	}
	if right < 1000 {
		t.Errorf("only %d texts were right", right)
	}
}

func TestPrintTold(t *testing.T) {
	mixed := small()
	slices.Reverse(mixed.Tokens)
	for _, c := range []struct {
		g    api.Gram
		want string
	}{
		{gram("g"), "grammar g\nrule r \n"},
		{gram("g", token("t", ""), token("u", " "), token("v", "a|b")), "grammar g\ntoken t ()\ntoken u  \ntoken v a|b\nrule r \n"},
		{gram("G_1", skipped(token("t", "[\n]"))), "grammar G_1\nskip t \\n\nrule r \n"},
		{gram("g", scan("s", "no"), skipped(scan("s", "yes;no"))), "grammar g\nscan s no\nskipscan s yes; no\nrule r \n"},
		{small(), "grammar g\ntoken t [a-z]+\nskip s [\\t-\\n\\r ]+\nscan p char 97 97 2; yes\nskipscan q char 98 98 2; yes\nrule r t u*\nrule u \"+\" | \n"},
		{mixed, "grammar g\nskipscan q char 98 98 2; yes\nscan p char 97 97 2; yes\nskip s [\\t-\\n\\r ]+\ntoken t [a-z]+\nrule r t u*\nrule u \"+\" | \n"},
		{api.Gram{}, ""},
		{api.Gram{Name: "g"}, ""},
		{api.Gram{Rules: []api.Rule{rule("r", cat())}}, ""},
		{gram("g", api.Token{Name: "t"}), ""},
	} {
		if got := Print(c.g); got != c.want {
			t.Errorf("Print(%v) = %q, not %q", c.g, got, c.want)
		}
	}
}

func TestPrintThereAndBack(t *testing.T) {
	seed := sample.Seed(3)
	all := []api.Gram{small(), gram("g")}
	for range 2000 {
		if g := drawnGram(&seed); Fit(g) {
			all = append(all, g)
		}
	}
	for _, x := range smalls() {
		all = append(all, api.Gram{Name: "g", Rules: []api.Rule{rule("r", x), rule("r", x)}})
	}
	for _, g := range all {
		s := Print(g)
		if strings.Count(s, "\n") != 1+len(g.Tokens)+len(g.Rules) {
			t.Fatalf("Print(%v) = %q", g, s)
		}
		checkParse(t, s, g, 0, api.Fault{})
		if h, _, _ := Parse(s); !Fit(h) || Print(h) != s {
			t.Fatalf("%q is read as %v", s, h)
		}
	}
	if len(all) < 3000 {
		t.Errorf("only %d grammars", len(all))
	}
}

// A fit grammar may be too long to be read, and is printed all the same.
func TestPrintOfLong(t *testing.T) {
	x, _ := rex.Plain(strings.Repeat("a", 400))
	g := gram("g")
	for range 64 {
		g.Tokens = append(g.Tokens, api.Token{Name: "t", Rex: x})
	}
	s := Print(g)
	if len(s) != len("grammar g\nrule r \n")+64*len("token t \n")+64*400 {
		t.Fatalf("%d bytes", len(s))
	}
	checkParse(t, s, api.Gram{}, 0, fault(api.ErrLong, 8192))
	g.Tokens = g.Tokens[:19]
	if s = Print(g); len(s) > 8192 {
		t.Fatalf("%d bytes", len(s))
	}
	checkParse(t, s, g, 0, api.Fault{})
}
