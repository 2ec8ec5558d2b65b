package parse

import (
	"strings"
	"testing"
)

// P19.3: bytes that are no token: at the beginning, in the middle, at the end, and alone.
func TestBytesThatAreNone(t *testing.T) {
	holdTrees(t, []showing{
		{"at the beginning", sums, "?1", `(sum 0-2 left:(?ERROR 0-1 (?ERROR 0-1)) left:(n 1-2))`},
		{"in the middle", sums, "1?+2", `(sum 0-4 left:(n 0-1) (?ERROR 1-2 (?ERROR 1-2)) <"+" 2-3> (n 3-4))`},
		{"ahead of the last", sums, "1+?2", `(sum 0-4 left:(n 0-1) <"+" 1-2> (?ERROR 2-3 (?ERROR 2-3)) (n 3-4))`},
		{"at the end", sums, "1 ?!", `(sum 0-4 left:(n 0-1) (?ERROR 2-4 (?ERROR 2-4)))`},
		{"alone", sums, "?", `(sum 0-1 left:(!n 0-0) (?ERROR 0-1 (?ERROR 0-1)))`},
		{"alone, where nothing is wanted", `rule r "a"?`, "?!", `(r 0-2 (?ERROR 0-2 (?ERROR 0-2)))`},
		{"parted by a blank", sums, "? ?1", `(sum 0-4 left:(?ERROR 0-3 (?ERROR 0-1) (?ERROR 2-3)) left:(n 3-4))`},
		{"of a letter's bytes", `token l é/rule r l*`, "é\xc3é\xa9", `(r 0-6 (l 0-2) (?ERROR 2-3 (?ERROR 2-3)) (l 3-5) (?ERROR 5-6 (?ERROR 5-6)))`},
	})
}

// P19.3: heaps of one token and of several: ahead of a token, and behind the whole.
func TestHeaps(t *testing.T) {
	holdTrees(t, []showing{
		{"of one, ahead of the first", pairs, "a(b)", `(p 0-4 (?ERROR 0-1 (w 0-1)) <"(" 1-2> (w 2-3) <")" 3-4>)`},
		{"of one, ahead of one in the middle", pairs, "(ab)", `(p 0-4 <"(" 0-1> (?ERROR 1-2 (w 1-2)) (w 2-3) <")" 3-4>)`},
		{"of one, ahead of the last", pairs, "(a ()", `(p 0-5 <"(" 0-1> (w 1-2) (?ERROR 3-4 <"(" 3-4>) <")" 4-5>)`},
		{"of one, behind the whole", pairs, "(a)b", `(p 0-4 <"(" 0-1> (w 1-2) <")" 2-3> (?ERROR 3-4 (w 3-4)))`},
		{"of several, ahead of the first", pairs, "a b(c)", `(p 0-6 (?ERROR 0-3 (w 0-1) (w 2-3)) <"(" 3-4> (w 4-5) <")" 5-6>)`},
		{"of several, ahead of one in the middle", pairs, "(a? bc)", `(p 0-7 <"(" 0-1> (?ERROR 1-5 (w 1-2) (?ERROR 2-3) (w 4-5)) (w 5-6) <")" 6-7>)`},
		{"of several, ahead of the last", pairs, "(a b c )", `(p 0-8 <"(" 0-1> (?ERROR 1-4 (w 1-2) (w 3-4)) (w 5-6) <")" 7-8>)`},
		{"of several, behind the whole", pairs, "(a) b ( ", `(p 0-8 <"(" 0-1> (w 1-2) <")" 2-3> (?ERROR 4-7 (w 4-5) <"(" 6-7>))`},
		{"of each kind of token", `token _h h/token w [a-z]/rule r "x" "y"`, "xya?h#x", `(r 0-7 <"x" 0-1> <"y" 1-2> (?ERROR 2-7 (w 2-3) (?ERROR 3-4) (_h 4-5) (?ERROR 5-6) <"x" 6-7>))`},
		{"ahead of a rule's first token", `token w [a-z]/rule r "x" s/rule s "(" w ")"`, "x?(a)", `(r 0-5 <"x" 0-1> (s 1-5 (?ERROR 1-2 (?ERROR 1-2)) <"(" 2-3> (w 3-4) <")" 4-5>))`},
		{"several of them", pairs, "a(b c)d", `(p 0-7 (?ERROR 0-1 (w 0-1)) <"(" 1-2> (?ERROR 2-3 (w 2-3)) (w 4-5) <")" 5-6> (?ERROR 6-7 (w 6-7)))`},
		{"all of it", `rule r /token w [a-z]`, "ab", `(r 0-2 (?ERROR 0-2 (w 0-1) (w 1-2)))`},
	})
}

// P19.3: tokens that are missing: at the beginning, in the middle, at the end; of an Alias, and hidden ones.
func TestMissing(t *testing.T) {
	holdTrees(t, []showing{
		{"at the beginning", pairs, " a)", `(p 0-3 <!"(" 0-0> (w 1-2) <")" 2-3>)`},
		{"in the middle", pairs, "( )", `(p 0-3 <"(" 0-1> (!w 1-1) <")" 2-3>)`},
		{"at the end", pairs, "( a ", `(p 0-4 <"(" 0-1> (w 2-3) <!")" 3-3>)`},
		{"all of them", pairs, "", `(p 0-0 <!"(" 0-0> (!w 0-0) <!")" 0-0>)`},
		{"all of them, of blanks", pairs, "  ", `(p 0-2 <!"(" 0-0> (!w 0-0) <!")" 0-0>)`},
		{"at the end, behind it a heap", pairs, "(a ?", `(p 0-4 <"(" 0-1> (w 1-2) <!")" 2-2> (?ERROR 3-4 (?ERROR 3-4)))`},
		{"at the beginning of a rule within", `token w [a-z]/skip sp \s/rule r "x" s/rule s "(" w`, "x a", `(r 0-3 <"x" 0-1> (s 2-3 <!"(" 2-2> (w 2-3)))`},
		{"all of a rule within", `token w [a-z]/skip sp \s/rule r "(" s ")"/rule s "x" w`, "( )", `(r 0-3 <"(" 0-1> (s 1-1 <!"x" 1-1> (!w 1-1)) <")" 2-3>)`},
		{"a token of an Alias", `token w [a-z]/rule r w=v`, "", `(r 0-0 (!v 0-0))`},
		{"a literal of an Alias", `rule r "("=open`, "", `(r 0-0 (!open 0-0))`},
		{"a literal of an Alias in a Field", `rule r f:("("=open) "x"`, "x", `(r 0-1 f:(!open 0-0) <"x" 0-1>)`},
		{"a hidden one", `token _h h/rule r "x" _h "y"`, "xy", `(r 0-2 <"x" 0-1> (!_h 1-1) <"y" 1-2>)`},
		{"a hidden one of an Alias", `token _h h/rule r "x" _h=v "y"`, "xy", `(r 0-2 <"x" 0-1> (!v 1-1) <"y" 1-2>)`},
		{"one of a hidden rule", `rule r "x" _s "y"/rule _s "(" ")"`, "xy", `(r 0-2 <"x" 0-1> <!"(" 1-1> <!")" 1-1> <"y" 1-2>)`},
		{"one beside a heap", `rule r "x" "y" "z"/token w w`, "xwz", `(r 0-3 <"x" 0-1> <!"y" 1-1> (?ERROR 1-2 (w 1-2)) <"z" 2-3>)`},
	})
}

// P19.3: hidden terminals and hidden rules, with an Alias and without.
func TestHidden(t *testing.T) {
	holdTrees(t, []showing{
		{"a terminal", `token _h h/rule r "x" _h "y"`, "xhy", `(r 0-3 <"x" 0-1> <"y" 2-3>)`},
		{"a terminal with an Alias", `token _h h/rule r "x" _h=v "y"`, "xhy", `(r 0-3 <"x" 0-1> (v 1-2) <"y" 2-3>)`},
		{"a terminal with an Alias that looks hidden", `token _h h/rule r _h=_v`, "h", `(r 0-1 (_v 0-1))`},
		{"a terminal in a Field", `token _h h/rule r "x" f:_h`, "xh", `(r 0-2 <"x" 0-1>)`},
		{"a terminal of a rule", `token _h h/rule r "x" s/rule s _h _h`, "xhh", `(r 0-3 <"x" 0-1> (s 1-3))`},
		{"a terminal behind one that is passed over", `token _h h/rule r "x" _h "y"`, "xyhy", `(r 0-4 <"x" 0-1> (?ERROR 1-2 <"y" 1-2>) <"y" 3-4>)`},
		{"a terminal in a heap", `token _h h/rule r "x" "y"`, "xhhy", `(r 0-4 <"x" 0-1> (?ERROR 1-3 (_h 1-2) (_h 2-3)) <"y" 3-4>)`},
		{"a terminal in a heap behind the whole", `token _h h/rule r "x"`, "xh", `(r 0-2 <"x" 0-1> (?ERROR 1-2 (_h 1-2)))`},
		{"a rule", `rule r "x" _s "y"/rule _s "(" ")"`, "x()y", `(r 0-4 <"x" 0-1> <"(" 1-2> <")" 2-3> <"y" 3-4>)`},
		{"a rule with an Alias", `rule r "x" _s=v "y"/rule _s "(" ")"`, "x()y", `(r 0-4 <"x" 0-1> (v 1-3 <"(" 1-2> <")" 2-3>) <"y" 3-4>)`},
		{"a rule with an Alias that looks hidden", `rule r _s=_v/rule _s "(" ")"`, "()", `(r 0-2 (_v 0-2 <"(" 0-1> <")" 1-2>))`},
		{"a rule within a hidden rule", `rule r "x" _s/rule _s "(" _t ")"/rule _t "a" "b"`, "x(ab)", `(r 0-5 <"x" 0-1> <"(" 1-2> <"a" 2-3> <"b" 3-4> <")" 4-5>)`},
		{"a rule with an Alias within a hidden rule", `rule r "x" _s/rule _s "(" _t=v ")"/rule _t "a" "b"`, "x(ab)", `(r 0-5 <"x" 0-1> <"(" 1-2> (v 2-4 <"a" 2-3> <"b" 3-4>) <")" 4-5>)`},
		{"a rule within one with an Alias", `rule r "x" _s=v/rule _s "(" _t ")"/rule _t "a" "b"`, "x(ab)", `(r 0-5 <"x" 0-1> (v 1-5 <"(" 1-2> <"a" 2-3> <"b" 3-4> <")" 4-5>))`},
		{"a rule within itself", `rule r _s/rule _s "a" _s | "b"`, "aab", `(r 0-3 <"a" 0-1> <"a" 1-2> <"b" 2-3>)`},
		{"a rule of hidden terminals", `token _h h/rule r "x" _s "y"/rule _s _h _h`, "xhhy", `(r 0-4 <"x" 0-1> <"y" 3-4>)`},
		{"a rule of hidden terminals, with an Alias", `token _h h/rule r "x" _s=v "y"/rule _s _h _h`, "xhhy", `(r 0-4 <"x" 0-1> (v 1-3) <"y" 3-4>)`},
		{"what is repeated", `rule r ("a" "b")+ "c"?`, "ababc", `(r 0-5 <"a" 0-1> <"b" 1-2> <"a" 2-3> <"b" 3-4> <"c" 4-5>)`},
		{"what is repeated, with an Alias", `rule r ("a" "b")+=v`, "abab", `(r 0-4 (v 0-4 <"a" 0-1> <"b" 1-2> <"a" 2-3> <"b" 3-4>))`},
		{"what is repeated of an Alias", `rule r (("a" "b")=v)*`, "abab", `(r 0-4 (v 0-2 <"a" 0-1> <"b" 1-2>) (v 2-4 <"a" 2-3> <"b" 3-4>))`},
	})
}

// P19.3: the Field of an item on all nodes that come of it, if they have none.
func TestFields(t *testing.T) {
	holdTrees(t, []showing{
		{"on a token", `token w [a-z]/rule r f:w "+"`, "a+", `(r 0-2 f:(w 0-1) <"+" 1-2>)`},
		{"on a literal", `rule r f:"a" "+"`, "a+", `(r 0-2 f:<"a" 0-1> <"+" 1-2>)`},
		{"on a rule, and not on what lies in it", `rule r f:s "+"/rule s "a" "b"`, "ab+", `(r 0-3 f:(s 0-2 <"a" 0-1> <"b" 1-2>) <"+" 2-3>)`},
		{"on several nodes", `rule r f:("a" "b") "+"`, "ab+", `(r 0-3 f:<"a" 0-1> f:<"b" 1-2> <"+" 2-3>)`},
		{"on what is repeated", `rule r f:"a"* "+"`, "aa+", `(r 0-3 f:<"a" 0-1> f:<"a" 1-2> <"+" 2-3>)`},
		{"on all that is repeated", `rule r f:("a"*) "+"`, "aa+", `(r 0-3 f:<"a" 0-1> f:<"a" 1-2> <"+" 2-3>)`},
		{"on none", `rule r f:("a"*) "+"`, "+", `(r 0-1 <"+" 0-1>)`},
		{"on the nodes of a hidden rule", `rule r f:_s "+"/rule _s "a" t/rule t "b"`, "ab+", `(r 0-3 f:<"a" 0-1> f:(t 1-2 <"b" 1-2>) <"+" 2-3>)`},
		{"on a hidden rule with an Alias", `rule r f:(_s=v) "+"/rule _s "a" "b"`, "ab+", `(r 0-3 f:(v 0-2 <"a" 0-1> <"b" 1-2>) <"+" 2-3>)`},
		{"outside and within", `rule r f:_s "+"/rule _s g:"a" "b"`, "ab+", `(r 0-3 g:<"a" 0-1> f:<"b" 1-2> <"+" 2-3>)`},
		{"outside, within, and within that", `rule r f:_s/rule _s "a" g:_t "d"/rule _t h:"b" "c"`, "abcd", `(r 0-4 f:<"a" 0-1> h:<"b" 1-2> g:<"c" 2-3> f:<"d" 3-4>)`},
		{"outside and within, on what is repeated", `rule r f:((g:"a" "b")*)`, "abab", `(r 0-4 g:<"a" 0-1> f:<"b" 1-2> g:<"a" 2-3> f:<"b" 3-4>)`},
		{"on what is missing", `rule r f:"a" "+"`, "+", `(r 0-1 f:<!"a" 0-0> <"+" 0-1>)`},
		{"on a heap", `rule r f:"a" "+"`, "?a+", `(r 0-3 f:(?ERROR 0-1 (?ERROR 0-1)) f:<"a" 1-2> <"+" 2-3>)`},
		{"on a heap ahead of a hidden token", `token _h h/rule r f:_h "+"`, "?h+", `(r 0-3 f:(?ERROR 0-1 (?ERROR 0-1)) <"+" 2-3>)`},
		{"not on a heap in a rule", `rule r f:s "+"/rule s "a"`, "?a+", `(r 0-3 f:(s 0-2 (?ERROR 0-1 (?ERROR 0-1)) <"a" 1-2>) <"+" 2-3>)`},
		{"not on the heap behind the whole", `rule r f:"a"`, "a?", `(r 0-2 f:<"a" 0-1> (?ERROR 1-2 (?ERROR 1-2)))`},
	})
}

// P19.3: an Alias on a terminal and on a rule, and literals.
func TestAliases(t *testing.T) {
	holdTrees(t, []showing{
		{"on a token", `token w [a-z]/rule r w=v w`, "ab", `(r 0-2 (v 0-1) (w 1-2))`},
		{"on a rule", `rule r s=v s/rule s "a"`, "aa", `(r 0-2 (v 0-1 <"a" 0-1>) (s 1-2 <"a" 1-2>))`},
		{"on the first rule within itself", `rule r "a" r=v | "b"`, "aab", `(r 0-3 <"a" 0-1> (v 1-3 <"a" 1-2> (v 2-3 <"b" 2-3>)))`},
		{"a literal", `rule r "if"`, "if", `(r 0-2 <"if" 0-2>)`},
		{"a literal, with a byte 34 and a backslash", `rule r "\"\\"`, `"\`, `(r 0-2 <"\"\\" 0-2>)`},
		{"on a literal", `rule r "if"=v "if"`, "ifif", `(r 0-4 (v 0-2) <"if" 2-4>)`},
		{"on a token behind one that is passed over", `rule r "a"=v`, "?a", `(r 0-2 (?ERROR 0-1 (?ERROR 0-1)) (v 1-2))`},
		{"not on a token in a heap", `rule r "a"=v "b"`, "aab", `(r 0-3 (?ERROR 0-1 <"a" 0-1>) (v 1-2) <"b" 2-3>)`},
		{"on what is nothing", `rule r "a" ("b"*)=v`, "a", `(r 0-1 <"a" 0-1> (v 1-1))`},
		{"the name of another symbol", `token w [a-z]/rule r w=s s/rule s "1"=ERROR`, "a1", `(r 0-2 (s 0-1) (s 1-2 (ERROR 1-2)))`},
	})
}

// P19.3: rules of nothing: at the beginning, in the middle, at the end, one after another, ahead of a heap.
func TestRulesOfNothing(t *testing.T) {
	of := func(body string) string { return `skip sp \s/rule r ` + body + `/rule o ` }
	holdTrees(t, []showing{
		{"at the beginning", of(`o "a"`), " a", `(r 0-2 (o 0-0) <"a" 1-2>)`},
		{"in the middle", of(`"a" o "b"`), " a b", `(r 0-4 <"a" 1-2> (o 2-2) <"b" 3-4>)`},
		{"at the end", of(`"a" o`), " a ", `(r 0-3 <"a" 1-2> (o 2-2))`},
		{"one after another, at the beginning", of(`o o "a"`), " a", `(r 0-2 (o 0-0) (o 0-0) <"a" 1-2>)`},
		{"one after another, in the middle", of(`"a" o o "b"`), "a b", `(r 0-3 <"a" 0-1> (o 1-1) (o 1-1) <"b" 2-3>)`},
		{"one after another, at the end", of(`"a" o o`), "a ", `(r 0-2 <"a" 0-1> (o 1-1) (o 1-1))`},
		{"nothing but these", of(`o o`), "  ", `(r 0-2 (o 0-0) (o 0-0))`},
		{"ahead of a heap", of(`"a" o "b"`), "a ? b", `(r 0-5 <"a" 0-1> (o 1-1) (?ERROR 2-3 (?ERROR 2-3)) <"b" 4-5>)`},
		{"ahead of a heap, at the beginning", of(`o "b"`), " ?b", `(r 0-3 (o 0-0) (?ERROR 1-2 (?ERROR 1-2)) <"b" 2-3>)`},
		{"ahead of the heap behind the whole", of(`"a" o`), "a ?", `(r 0-3 <"a" 0-1> (o 1-1) (?ERROR 2-3 (?ERROR 2-3)))`},
		{"around what is missing", of(`"a" o "b" o "c"`), "a c", `(r 0-3 <"a" 0-1> (o 1-1) <!"b" 1-1> (o 1-1) <"c" 2-3>)`},
		{"in a rule of which tokens come, at its beginning", `skip sp \s/rule r "a" s/rule s o "b"/rule o `, "a b", `(r 0-3 <"a" 0-1> (s 2-3 (o 2-2) <"b" 2-3>))`},
		{"in a rule of which tokens come, at its end", `skip sp \s/rule r s "b"/rule s "a" o/rule o `, "a b", `(r 0-3 (s 0-1 <"a" 0-1> (o 1-1)) <"b" 2-3>)`},
		{"in a hidden rule, at its beginning", `skip sp \s/rule r "a" _s/rule _s o "b"/rule o `, "a b", `(r 0-3 <"a" 0-1> (o 2-2) <"b" 2-3>)`},
		{"in a hidden rule that is nothing", `skip sp \s/rule r "a" _s "b"/rule _s o o/rule o `, "a b", `(r 0-3 <"a" 0-1> (o 1-1) (o 1-1) <"b" 2-3>)`},
		{"in a rule of nothing", `skip sp \s/rule r "a" s "b"/rule s o/rule o `, "a b", `(r 0-3 <"a" 0-1> (s 1-1 (o 1-1)) <"b" 2-3>)`},
		{"hidden ones", `skip sp \s/rule r _o "a" _o "b" _o/rule _o `, "a b", `(r 0-3 <"a" 0-1> <"b" 2-3>)`},
		{"behind a hidden token", `token _h h/skip sp \s/rule r "a" _h o "b"/rule o `, "a h b", `(r 0-5 <"a" 0-1> (o 3-3) <"b" 4-5>)`},
		{"behind a rule of hidden tokens", `token _h h/skip sp \s/rule r "a" s o "b"/rule s _h/rule o `, "a h b", `(r 0-5 <"a" 0-1> (s 2-3) (o 3-3) <"b" 4-5>)`},
		{"at the beginning, behind it a rule of nothing in one", `skip sp \s/rule r s/rule s o "a"/rule o `, " a", `(r 0-2 (s 1-2 (o 1-1) <"a" 1-2>))`},
	})
}

// P19.3: texts of which mend.Best tells nothing, with tokens and without.
func TestNothingMended(t *testing.T) {
	const endless = `token w [a-z]/token _h h/skip sp \s/rule r r "x"`
	long := `rule r ` + strings.Repeat(`"x" `, 41)
	holdTrees(t, []showing{
		{"without tokens", endless, "", `(?ERROR 0-0)`},
		{"of skipped tokens", endless, "  ", `(?ERROR 0-2)`},
		{"with a token", endless, " a ", `(?ERROR 0-3 (w 1-2))`},
		{"with tokens of each kind", endless, "x a?", `(?ERROR 0-4 <"x" 0-1> (w 2-3) (?ERROR 3-4))`},
		{"with hidden tokens", `token _h h/rule r r "x"`, "hxh", `(?ERROR 0-3 (_h 0-1) <"x" 1-2> (_h 2-3))`},
		{"with bytes alone", endless, "??", `(?ERROR 0-2 (?ERROR 0-2))`},
		{"too much is missing", long, "", `(?ERROR 0-0)`},
		{"too much is missing beside a heap", long, "x?", `(?ERROR 0-2 <"x" 0-1> (?ERROR 1-2))`},
	})
	for _, least := range []string{"x", strings.Repeat("x", 41)} {
		if n := Tree(made(t, long), least); n.Kind == "ERROR" != (len(least) > 40) {
			t.Errorf("%q: %s", least, show(n))
		}
	}
}
