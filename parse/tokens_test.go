package parse

import (
	"fmt"
	"slices"
	"strings"
	"testing"

	"bramble/api"
	"bramble/lex"
)

// pieces is tokens as a text: of each the terminal, its bytes, the state behind it, and up to where was looked.
func pieces(l []api.Piece) string {
	var all []string
	for _, p := range l {
		all = append(all, fmt.Sprintf("%d:%d-%d,%d,%d", p.Term, p.From, p.To, p.State, p.Seen))
	}
	return strings.Join(all, " ")
}

// P19.2: all pieces but those that are skipped, as they are.
func TestTokens(t *testing.T) {
	scans := `scan o char 40 40 3; add 1; yes; no/skipscan c char 41 41 3; add 255; yes; no/token w [a-z]+/rule r w o`
	for _, c := range []struct{ lines, text, want string }{
		{sums, "1 + 2", "1:0-1,0,2 0:2-3,0,4 1:4-5,0,6"},
		{sums, " 12 ", "1:1-3,0,4"},
		{sums, "", ""},
		{sums, " \n ", ""},
		{sums, "?1? ?", "-1:0-1,0,1 1:1-2,0,3 -1:2-3,0,3 -1:4-5,0,5"},
		{sums, "??", "-1:0-2,0,2"},
		{`token _h h/skip _s s/rule r _h`, "shs?", "0:1-2,0,3 -1:3-4,0,4"},
		{`skip s [a-z]/rule r "a"`, "ab", "0:0-1,0,2"},
		{`skip s [a-z]+/rule r "a"`, "ab", ""},
		{scans, "(a)(", "0:0-1,1,1 2:1-2,1,3 0:3-4,1,4"},
		{`token w [a-z]/token x y/rule r w`, "xy", "0:0-1,0,2 0:1-2,0,3"},
	} {
		got := Tokens(made(t, c.lines), c.text)
		if pieces(got) != c.want || len(got) == 0 && got != nil {
			t.Errorf("%s, %q: %s, not %s", c.lines, c.text, pieces(got), c.want)
		}
	}
}

// P19.5: a row of at most 40 terminals that is the grammar's.
func TestClean(t *testing.T) {
	for _, c := range []struct {
		lines, text string
		want        bool
	}{
		{sums, "1", true},
		{sums, " 1 + 2 ", true},
		{sums, "1+2+3", true},
		{sums, "", false},
		{sums, "  ", false},
		{sums, "+", false},
		{sums, "1 2", false},
		{sums, "1+", false},
		{sums, "1?", false},
		{sums, "?1", false},
		{sums, "1?+1", false},
		{`rule r "a"*`, "", true},
		{`rule r "a"*/skip s \s`, "  ", true},
		{`rule r "a"*`, "?", false},
		{`rule r _h/token _h h`, "h", true},
		{`rule r "a"?/token _h h`, "h", false},
		{`rule r r "x"`, "x", false},
		{`rule r r "x"`, "", false},
		{`rule r %1 r r | %2 "x"`, "xxx", true},
		{`rule r "x"*`, strings.Repeat("x", 40), true},
		{`rule r "x"*`, strings.Repeat("x", 41), false},
		{`rule r "x"*`, strings.Repeat("x", 39) + "?", false},
		{`rule r "x"*/skip s y`, strings.Repeat("xyy", 40), true},
		{`rule r "x"*/skip s y`, strings.Repeat("xyy", 41), false},
		{`rule r "x"*/skip s y`, strings.Repeat("y", 500), true},
		{`rule r _x*/token _x x`, strings.Repeat("x", 41), false},
	} {
		if got := Clean(made(t, c.lines), c.text); got != c.want {
			t.Errorf("%s, %q: %v", c.lines, c.text, got)
		}
	}
}

// P19.5: the kinds of all nodes that there may be.
func TestKinds(t *testing.T) {
	for _, c := range []struct{ what, lines, want string }{
		{"a rule alone", `rule r `, "ERROR r"},
		{"literals, tokens and rules", sums, `"+" ERROR n sum`},
		{"no helpers", `rule r ("a" | "b")* ("c"+)?`, `"a" "b" "c" ERROR r`},
		{"a hidden rule", `rule r _s/rule _s "a"`, `"a" ERROR r`},
		{"a hidden rule with an Alias", `rule r _s=v/rule _s "a"`, `"a" ERROR r v`},
		{"a hidden token", `token _h h/rule r "a"`, `"a" ERROR _h r`},
		{"a hidden token with an Alias", `token _h h/rule r _h=v`, `ERROR _h r v`},
		{"skipped tokens", `skip s \s/skip _t t/skipscan u yes/token w w/rule r w`, "ERROR r w"},
		{"a token that no rule has", `token w w/token x x/rule r x`, "ERROR r w x"},
		{"a rule that no rule has", `rule r "a"/rule s "b"`, `"a" "b" ERROR r s`},
		{"an Alias in a rule that no rule has", `rule r "a"/rule s "b"=v`, `"a" "b" ERROR r s v`},
		{"an Alias in what is repeated", `rule r ("a"=v)*`, `"a" ERROR r v`},
		{"Aliases of one another", `rule r ("a"=v)=u`, `"a" ERROR r u`},
		{"an Alias as a token", `token w w/rule r w "a"=w`, `"a" ERROR r w`},
		{"an Alias as a rule", `rule r s "a"=s/rule s "b"`, `"a" "b" ERROR r s`},
		{"an Alias as the first rule", `rule r "a"=r`, `"a" ERROR r`},
		{"an Alias as a hidden rule", `rule r "a"=_s _s/rule _s "b"`, `"a" "b" ERROR _s r`},
		{"an Alias as a hidden token", `token _h h/rule r "a"=_h _h`, `"a" ERROR _h r`},
		{"an Alias as a skipped token", `skip s \s/rule r "a"=s`, `"a" ERROR r s`},
		{"an Alias ERROR", `rule r "a"=ERROR`, `"a" ERROR r`},
		{"a rule ERROR", `rule ERROR "a"`, `"a" ERROR`},
		{"a token ERROR", `token ERROR a/rule r ERROR`, `ERROR r`},
		{"a skipped token ERROR", `skip ERROR a/rule r "b"`, `"b" ERROR r`},
		{"an Alias often, and as all else", `token w w/rule r w=r s=r/rule s w=w "a"=w "a"=r`, `"a" ERROR r s w`},
		{"a literal as a rule", `rule r "r" "s"=r`, `"r" "s" ERROR r`},
		{"in the order of bytes", `rule b "a" a/rule a "Z" Z "z"=z/rule Z "_"=_a "{"`, `"Z" "_" "a" "z" "{" ERROR Z _a a b z`},
	} {
		got := strings.Join(Kinds(made(t, c.lines)), " ")
		if got != c.want {
			t.Errorf("%s: %s, not %s", c.what, got, c.want)
		}
	}
}

// Texts of just 40 terminals and of 41.
func TestTokensThatAreTooMany(t *testing.T) {
	for _, c := range []struct{ what, lines, part, one, node string }{
		{"clean", `rule r "x"*`, "x", `<"x" 0-1>`, "r"},
		{"with skipped tokens", `rule r "x"*/skip s y`, "yxy", `<"x" 1-2>`, "r"},
		{"bytes that are none", `rule r "x"*/skip s y`, "?y", `(?ERROR 0-1)`, "r"},
		{"hidden", `token _h h/rule r _h*`, "h", `(_h 0-1)`, "r"},
		{"passed over", `rule r "x"*/token w w`, "w", `(w 0-1)`, "r"},
	} {
		x := made(t, c.lines)
		few, many := strings.Repeat(c.part, 40), strings.Repeat(c.part, 41)
		if n := Tree(x, few); n.Kind != c.node || n.Bad != api.BadNone || n.To != len(few) {
			t.Errorf("%s, 40: %s", c.what, show(n))
		}
		n := Tree(x, many)
		if n.Kind != "ERROR" || n.Bad != api.BadError || !n.Named || n.To != len(many) || len(n.Kids) != 41 || show(n.Kids[0]) != c.one {
			t.Errorf("%s, 41: %s", c.what, show(n))
		}
		for _, s := range []string{few, many} {
			holdWords(t, x, s)
			holdFollows(t, x, s)
		}
	}
}

// A terminal that is skipped is told by the lexer, and all else of a token is as lex.All tells it.
func TestTokensOfAll(t *testing.T) {
	x := made(t, sums)
	const s = "1 + ? 2"
	all := lex.All(x.Lexer, s)
	got := slices.DeleteFunc(all, func(p api.Piece) bool { return s[p.From] == ' ' })
	if !slices.Equal(Tokens(x, s), got) || len(got) != 4 {
		t.Errorf("%s, not %s", pieces(Tokens(x, s)), pieces(got))
	}
}
