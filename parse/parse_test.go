package parse

import (
	"fmt"
	"strings"
	"testing"

	"bramble/api"
	"bramble/gram"
	"bramble/node"
)

// read is the grammar of lines, with / between.
func read(t *testing.T, lines string) api.Gram {
	t.Helper()
	s := "grammar g\n" + strings.ReplaceAll(lines, "/", "\n")
	g, line, f := gram.Parse(s)
	if f.Err != api.OK {
		t.Fatalf("%q: line %d, %v", s, line, f)
	}
	return g
}

// made is the grammar of lines made ready.
func made(t *testing.T, lines string) api.Lang {
	t.Helper()
	x, err := Make(read(t, lines))
	if err != api.OK {
		t.Fatalf("%s: %v", lines, err)
	}
	return x
}

// show is all of a tree as text: each node in ( ), or, if it is not Named, in < >, behind its Field, with a ? ahead if it is BadError, and a ! if it is BadMiss.
func show(n api.Node) string {
	open, end := "<", ">"
	if n.Named {
		open, end = "(", ")"
	}
	field := ""
	if n.Field != "" {
		field = n.Field + ":"
	}
	s := field + open + []string{"", "?", "!"}[n.Bad] + n.Kind + fmt.Sprintf(" %d-%d", n.From, n.To)
	for _, kid := range n.Kids {
		s += " " + show(kid)
	}
	return s + end
}

// showing is a grammar's lines, a text, and its tree.
type showing struct {
	what, lines, text, want string
}

// holdTrees fails where another tree is told, or something that must follow does not.
func holdTrees(t *testing.T, all []showing) {
	t.Helper()
	for _, c := range all {
		x := made(t, c.lines)
		if got := show(Tree(x, c.text)); got != c.want {
			t.Errorf("%s, %q:\n%s, not\n%s", c.what, c.text, got, c.want)
		}
		holdWords(t, x, c.text)
		holdFollows(t, x, c.text)
	}
}

// Grammars of sums, with blanks that are skipped.
const (
	sums  = `token n [0-9]+/skip sp \s+/rule sum left:n ("+" n)*`
	pairs = `token w [a-z]/skip sp \s+/rule p "(" (w | p) ")"`
)

// The chapter's examples, by chapter 14's Print.
func TestExamples(t *testing.T) {
	x := made(t, sums)
	for s, want := range map[string]string{
		"1 + 2": `(sum left: (n) "+" (n))`,
		"1 +":   `(sum left: (n) (ERROR "+"))`,
		"1 2":   `(sum left: (ERROR (n)) left: (n))`,
		"":      `(sum left: (MISSING n))`,
	} {
		if got := node.Print(Tree(x, s)); got != want {
			t.Errorf("%q: %s, not %s", s, got, want)
		}
	}
}

// The example 5 of the whole, and what is in others of it a tree alone.
func TestExamplesOfTheWhole(t *testing.T) {
	for _, c := range []showing{
		{"fields in fields", `token n [0-9]+/skip s \s+/rule two l:two "+" r:two | n`, "1+2", `(two l: (two (n)) "+" r: (two (n)))`},
		{"a sign too much", `token n [0-9]+/skip s \s+/rule two l:two "+" r:two | n`, "1+", `(two (n) (ERROR "+"))`},
		{"a sign too early", `token n [0-9]+/skip s \s+/rule two l:two "+" r:two | n`, "+1", `(two (ERROR "+") (n))`},
		{"a number too much", `token n [0-9]+/skip s \s+/rule two l:two "+" r:two | n`, "1 2", `(two (ERROR (n)) (n))`},
		{"nothing", `token n [0-9]+/skip s \s+/rule two l:two "+" r:two | n`, "", `(two (MISSING n))`},
		{"what counts", `token t [a-z]/rule e %1 e "+" e | e "*" e | t`, "a+b*c", `(e (e (t)) "+" (e (e (t)) "*" (e (t))))`},
		{"what counts, the other way round", `token t [a-z]/rule e %1 e "+" e | e "*" e | t`, "a*b+c", `(e (e (e (t)) "*" (e (t))) "+" (e (t)))`},
		{"a scanner", `scan ind char 32 32 3; goto 0; no; yes/token w [a-z]+/rule s (w | ind)*`, "a  b", `(s (w) (ind) (w))`},
	} {
		if got := node.Print(Tree(made(t, c.lines), c.text)); got != c.want {
			t.Errorf("%s: %s, not %s", c.what, got, c.want)
		}
	}
}

// P19.3: what is of the grammar, and where its nodes lie.
func TestCleanTrees(t *testing.T) {
	holdTrees(t, []showing{
		{"blanks between", sums, "1 + 2", `(sum 0-5 left:(n 0-1) <"+" 2-3> (n 4-5))`},
		{"blanks around all", sums, "  1+ 23 ", `(sum 0-8 left:(n 2-3) <"+" 3-4> (n 5-7))`},
		{"one token", sums, "1", `(sum 0-1 left:(n 0-1))`},
		{"rules within rules", pairs, " ( (a) ) ", `(p 0-9 <"(" 1-2> (p 3-6 <"(" 3-4> (w 4-5) <")" 5-6>) <")" 7-8>)`},
		{"the first rule within itself", `rule r "a" r? `, "aaa", `(r 0-3 <"a" 0-1> (r 1-3 <"a" 1-2> (r 2-3 <"a" 2-3>)))`},
		{"the empty text", `rule r "a"*`, "", `(r 0-0)`},
		{"skipped tokens alone", `skip sp \s+/rule r "a"*`, " \n ", `(r 0-3)`},
		{"hidden tokens alone", `token _h h/rule r _h*`, "hh", `(r 0-2)`},
		{"hidden tokens and skipped ones alone", `token _h h/skip sp \s+/rule r _h*`, " h  h ", `(r 0-6)`},
		{"letters of several bytes", `token l é|€/rule r l* "x"`, "é€x", `(r 0-6 (l 0-2) (l 2-5) <"x" 5-6>)`},
		{"bytes 0", `token z [^a]/rule r z*`, "\x00\x00", `(r 0-2 (z 0-1) (z 1-2))`},
	})
}
