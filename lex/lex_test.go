package lex

import (
	"fmt"
	"slices"
	"strings"
	"testing"

	"bramble/api"
	"bramble/gram"
	"bramble/rex"
)

// Programs of scanners.
const (
	as      = "char 97 97 3; goto 0; no; yes"                        // all a that there are
	aab     = "char 97 97 5; char 97 97 5; char 98 98 5; yes; no"    // the text aab
	opens   = "char 40 40 3; add 1; yes; no"                         // (, in one state more
	closes  = "is 0 3; no; no; char 41 41 6; add 255; yes; no"       // ), but in state 0, in one state less
	early   = "char 97 97 2; yes; no"                                // one a, whatever follows
	curious = "char 98 98 4; char 98 98 4; char 98 98 4; no; no"     // looks at three b, and finds nothing
	turns   = "char 33 33 7; is 0 5; set 7; yes; no; set 0; yes; no" // !, to state 7 or back to 0
)

// read is the grammar of lines.
func read(t *testing.T, lines ...string) api.Gram {
	t.Helper()
	s := strings.Join(append([]string{"grammar g"}, lines...), "\n")
	g, line, f := gram.Parse(s)
	if f.Err != api.OK {
		t.Fatalf("%q: line %d, %v", s, line, f)
	}
	return g
}

// made is the lexer of a grammar's lines.
func made(t *testing.T, lines ...string) api.Lexer {
	t.Helper()
	x, err := Make(read(t, lines...))
	if err != api.OK {
		t.Fatalf("%q: %v", lines, err)
	}
	return x
}

// expr is an expression by its text.
func expr(t *testing.T, s string) api.Rex {
	t.Helper()
	x, f := rex.Parse(s)
	if f.Err != api.OK {
		t.Fatalf("%q: %v", s, f)
	}
	return x
}

// shown is pieces as a text: of each the terminal, its bytes, the state behind it, and up to where was looked.
func shown(l []api.Piece) string {
	var all []string
	for _, p := range l {
		all = append(all, fmt.Sprintf("%d:%d-%d,%d,%d", p.Term, p.From, p.To, p.State, p.Seen))
	}
	return strings.Join(all, " ")
}

// grammars is grammars whose tokens meet one another in many ways in texts of a, b, ( and ).
func grammars(t *testing.T) []api.Gram {
	t.Helper()
	var all []api.Gram
	for _, lines := range [][]string{
		{`rule r "a"`},
		{`rule r "ab" | "a" "b" | "aab"`},
		{`token t [ab]+`, `skip s \(`, `rule r "ab" t`},
		{`token t a(b*\))?`, `rule r t*`},
		{`token t .`, `token u ..`, `rule r t u`},
		{`token t a`, `token u (ab)*\(`, `skip v (ba)+`, `rule r t u`},
		{`token t [^a]+`, `rule r "aa"`},
		{`rule r `},
		{`scan t ` + as, `rule r t`},
		{`scan t ` + aab, `token u [ab]`, `rule r t u`},
		{`scan t ` + early, `token u [ab]+`, `rule r t u`},
		{`scan t ` + curious, `scan u ` + early, `token v b`, `rule r t u v`},
		{`scan t ` + opens, `skipscan u ` + closes, `token v \)+a|b`, `rule r t v`},
		{`scan t ` + opens, `scan u ` + closes, `scan v ` + as, `rule r t`},
		{`scan t char 97 97 3; add 100; yes; no`, `scan u is 200 4; char 98 98 4; add 60; yes; no`, `token v b(ab)?`, `rule r t "("`},
		{`scan t is 0 4; char 98 98 8; set 1; yes; is 1 8; char 97 98 8; set 0; yes; no`, `token u a+`, `rule r t u`},
	} {
		all = append(all, read(t, lines...))
	}
	return all
}

// The chapter's examples.
func TestExamples(t *testing.T) {
	x := made(t, `token w [a-z]+`, `skip sp \s+`, `rule a "if" w`)
	for s, want := range map[string]string{
		"if x":   "0:0-2,0,3 2:2-3,0,4 1:3-4,0,5",
		"?a":     "-1:0-1,0,1 1:1-2,0,3",
		"if xy":  "0:0-2,0,3 2:2-3,0,4 1:3-5,0,6",
		"if":     "0:0-2,0,3",
		"i":      "1:0-1,0,2",
		"iff":    "1:0-3,0,4",
		"":       "",
		"? ?a?b": "-1:0-1,0,1 2:1-2,0,3 -1:2-3,0,3 1:3-4,0,5 -1:4-5,0,5 1:5-6,0,7",
	} {
		if got := shown(All(x, s)); got != want {
			t.Errorf("%q: %s, not %s", s, got, want)
		}
	}
	if !slices.Equal(x.Of, []int{0, 1, 2}) || !slices.Equal(x.Skip, []bool{false, false, true}) || x.Scans != nil || x.Progs != nil {
		t.Errorf("%v", x)
	}
}
