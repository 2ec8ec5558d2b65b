package gram

import (
	"strconv"
	"strings"
	"testing"

	"bramble/api"
	"bramble/sample"
)

func TestTextTold(t *testing.T) {
	a, b, c := name("a"), name("b"), name("c")
	for _, x := range []struct {
		x    api.Gx
		want string
	}{
		{a, "a"},
		{name("aZ_9"), "aZ_9"},
		{lit("a"), `"a"`},
		{lit(`a"b\c`), `"a\"b\\c"`},
		{lit(" ~"), `" ~"`},
		{cat(), ""},
		{cat(a, b), "a b"},
		{cat(a, b, c), "a b c"},
		{cat(cat(a, b), c), "(a b) c"},
		{cat(a, cat()), "a ()"},
		{cat(cat(), cat()), "() ()"},
		{alt(a, b), "a | b"},
		{alt(a, b, c), "a | b | c"},
		{alt(a, cat()), "a | "},
		{alt(cat(), a), " | a"},
		{alt(cat(), cat()), " | "},
		{alt(a, cat(), b), "a |  | b"},
		{alt(cat(), cat(), cat()), " |  | "},
		{alt(cat(a, b), c), "a b | c"},
		{alt(alt(a, b), c), "(a | b) | c"},
		{cat(a, alt(b, cat())), "a (b | )"},
		{star(alt(cat(), a)), "( | a)*"},
		{star(cat()), "()*"},
		{star(cat(a, b)), "(a b)*"},
		{plus(star(a)), "(a*)+"},
		{opt(a), "a?"},
		{field("x", a), "x:a"},
		{field("x", cat()), "x:()"},
		{field("x", star(a)), "x:a*"},
		{star(field("x", a)), "(x:a)*"},
		{alias(a, "y"), "a=y"},
		{alias(field("x", opt(a)), "y"), "x:a?=y"},
		{field("x", alias(a, "y")), "x:(a=y)"},
		{prec(2, a), "%2 a"},
		{prec(-99, cat(a, b)), "%-99 a b"},
		{prec(0, cat()), "%0"},
		{prec(7, alt(a, b)), "%7 (a | b)"},
		{prec(7, prec(8, cat())), "%7 (%8)"},
		{star(prec(1, cat())), "(%1)*"},
		{alt(prec(1, cat()), prec(2, cat()), a), "%1 | %2 | a"},
		{alt(a, prec(1, cat(a, b))), "a | %1 a b"},
		{cat(a, prec(1, cat())), "a (%1)"},
		{alt(cat(a, star(b)), prec(2, field("x", c))), "a b* | %2 x:c"},
		{cat(alias(a, "b"), field("x", star(lit("+"))), opt(cat(c, c))), `a=b x:"+"* (c c)?`},
	} {
		if got := Text(x.x); got != x.want {
			t.Errorf("Text(%v) = %q, not %q", x.x, got, x.want)
		}
	}
}

// within is, of each kind, the kinds within which it stands in parentheses: C is GxCat, A GxAlt, S GxStar, P GxPlus, O GxOpt, F GxField, L GxAlias, R GxPrec.
func within(inner int) string {
	switch inner {
	case api.GxAlt:
		return "CASPOFLR"
	case api.GxPrec:
		return "CSPOFLR"
	case api.GxCat:
		return "CSPOFL"
	case api.GxAlias:
		return "LFSPO"
	case api.GxField:
		return "FSPO"
	case api.GxStar, api.GxPlus, api.GxOpt:
		return "SPO"
	}
	return ""
}

// byWords is Text by the chapter's words.
func byWords(x api.Gx) string {
	letter := map[int]string{api.GxCat: "C", api.GxAlt: "A", api.GxStar: "S", api.GxPlus: "P", api.GxOpt: "O", api.GxField: "F", api.GxAlias: "L", api.GxPrec: "R"}[x.Op]
	var subs []string
	for _, sub := range x.Subs {
		s := byWords(sub)
		if strings.Contains(within(sub.Op), letter) {
			s = "(" + s + ")"
		}
		subs = append(subs, s)
	}
	switch x.Op {
	case api.GxName:
		return x.Name
	case api.GxLit:
		return `"` + strings.NewReplacer(`"`, `\"`, `\`, `\\`).Replace(x.Name) + `"`
	case api.GxCat:
		return strings.Join(subs, " ")
	case api.GxAlt:
		return strings.Join(subs, " | ")
	case api.GxField:
		return x.Name + ":" + subs[0]
	case api.GxAlias:
		return subs[0] + "=" + x.Name
	case api.GxPrec:
		return strings.TrimSuffix("%"+strconv.Itoa(x.Num)+" "+subs[0], " ")
	}
	return subs[0] + map[int]string{api.GxStar: "*", api.GxPlus: "+", api.GxOpt: "?"}[x.Op]
}

// Each kind within each other kind.
func TestTextOfKindsWithinOneAnother(t *testing.T) {
	a, b := name("a"), name("b")
	inner := []struct {
		x    api.Gx
		s    string
		bare string // the kinds within which it stands without parentheses
	}{
		{a, "a", "cat alt star plus opt field alias prec"},
		{lit("("), `"("`, "cat alt star plus opt field alias prec"},
		{cat(a, b), "a b", "alt prec"},
		{cat(), "", "alt prec"},
		{alt(a, b), "a | b", ""},
		{star(a), "a*", "cat alt field alias prec"},
		{plus(a), "a+", "cat alt field alias prec"},
		{opt(a), "a?", "cat alt field alias prec"},
		{field("x", a), "x:a", "cat alt alias prec"},
		{alias(a, "y"), "a=y", "cat alt prec"},
		{prec(3, a), "%3 a", "alt"},
	}
	for _, c := range inner {
		for _, outer := range []struct {
			kind        string
			x           api.Gx
			left, right string
		}{
			{"cat", cat(b, c.x), "b ", ""},
			{"cat", cat(c.x, b), "", " b"},
			{"alt", alt(b, c.x), "b | ", ""},
			{"alt", alt(c.x, b), "", " | b"},
			{"star", star(c.x), "", "*"},
			{"plus", plus(c.x), "", "+"},
			{"opt", opt(c.x), "", "?"},
			{"field", field("x", c.x), "x:", ""},
			{"alias", alias(c.x, "y"), "", "=y"},
			{"prec", prec(2, c.x), "%2 ", ""},
		} {
			want := outer.left + "(" + c.s + ")" + outer.right
			if strings.Contains(c.bare, outer.kind) {
				want = outer.left + c.s + outer.right
			}
			if outer.kind == "prec" && c.s == "" {
				want = "%2"
			}
			if got := Text(outer.x); got != want {
				t.Errorf("Text(%v) = %q, not %q", outer.x, got, want)
			}
			checkBody(t, want, outer.x, api.Fault{})
		}
	}
}

// checkThereAndBack writes a body, by the words too, and reads it.
func checkThereAndBack(t *testing.T, x api.Gx) {
	t.Helper()
	s := Text(x)
	if want := byWords(x); s != want {
		t.Fatalf("Text(%v) = %q, not %q", x, s, want)
	}
	if y, f := Body(s); f != (api.Fault{}) || !sameBody(x, y) {
		t.Fatalf("Body(%q) = %v, %v, not %v", s, y, f, x)
	}
}

func TestTextThereAndBack(t *testing.T) {
	for _, x := range smalls() {
		checkThereAndBack(t, x)
	}
	seed := sample.Seed(11)
	for n := range 5000 {
		if x := drawn(&seed, n%6); FitBody(x) {
			checkThereAndBack(t, x)
		}
	}
	checkThereAndBack(t, many(400))
	checkThereAndBack(t, nested(17, name("b")))
	checkThereAndBack(t, nested(16, alt(prec(1, cat(name("a"), name("b"))), cat())))
}

// Without any one of its pairs of parentheses a text would be something else, or nothing.
func TestTextHasNoParenthesesTooMany(t *testing.T) {
	for _, x := range smalls() {
		s := Text(x)
		var open []int
		for at := range len(s) {
			switch s[at] {
			case '(':
				open = append(open, at)
			case ')':
				from := open[len(open)-1]
				open = open[:len(open)-1]
				less := s[:from] + " " + s[from+1:at] + " " + s[at+1:]
				if y, f := Body(less); f == (api.Fault{}) && sameBody(x, y) {
					t.Fatalf("%q is %q, too", s, less)
				}
			}
		}
	}
}

func TestTextCountsParentheses(t *testing.T) {
	for n := range 20 {
		x := nested(n, cat())
		want := ""
		if n <= 16 {
			want = strings.Repeat("a (", n) + strings.Repeat(")", n)
		}
		if got := Text(x); got != want {
			t.Errorf("%d parentheses: %q", n, got)
		}
	}
}

// A fit body may be too long to be read, and is written all the same.
func TestTextOfLong(t *testing.T) {
	x := many(256)
	for i := range x.Subs {
		x.Subs[i] = name(strings.Repeat("n", 31))
	}
	x.Subs[0].Name += "n"
	s := Text(x)
	if len(s) != 255*32 {
		t.Fatalf("%d bytes", len(s))
	}
	checkThereAndBack(t, x)
	x.Subs = append(x.Subs, name(strings.Repeat("m", 31)))
	if s = Text(x); len(s) != 8192 {
		t.Fatalf("%d bytes", len(s))
	}
	checkThereAndBack(t, x)
	x.Subs[1].Name += "n"
	if s = Text(x); len(s) != 8193 || s != byWords(x) {
		t.Fatalf("%d bytes", len(s))
	}
	checkBody(t, s, api.Gx{}, fault(api.ErrLong, 8192))
}

func TestTextOfUnfit(t *testing.T) {
	for _, x := range []api.Gx{{}, name(""), lit(""), cat(name("a")), {Op: 11}, star(api.Gx{}), many(401)} {
		if got := Text(x); got != "" {
			t.Errorf("Text(%v) = %q", x, got)
		}
	}
}
