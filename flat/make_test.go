package flat

import (
	"strings"
	"testing"

	"bramble/api"
)

// made is what comes of lines.
func made(t *testing.T, lines string) api.Flat {
	t.Helper()
	f, err := Make(read(t, lines))
	if err != api.OK {
		t.Fatalf("%s: %v", lines, err)
	}
	return f
}

// shown is what Show tells of what comes of lines, ; and a blank between its lines.
func shown(t *testing.T, lines string) string {
	t.Helper()
	return strings.ReplaceAll(strings.TrimSuffix(Show(made(t, lines)), "\n"), "\n", "; ")
}

func TestMakeNamesSymbols(t *testing.T) {
	for _, c := range []struct {
		lines, terms, nons string
	}{
		{`rule a `, ``, `a`},
		{`rule a "x" b* | %2 b; rule b "y"`, `"x" "y"`, `a b #1`},
		{`token t x; skip s y; scan u yes; skipscan _v yes; rule a "b" u t; rule b "a" "b"`, `"b" "a" t s u _v`, `a b`},
		{`token t x; rule a "t" t; rule b "a" "b"`, `"t" "a" "b" t`, `a b`},
		{`rule z y; rule y "z" _x; rule _x "y" "z"`, `"z" "y"`, `z y _x`},
		{`rule a ("z" "y"?)* "x"; rule b "w" | ("y" | "v")+`, `"z" "y" "x" "w" "v"`, `a b #1 #2 #3 #4 #5`},
		{`rule a "\"" "\\" "a\\\"b"`, `"\"" "\\" "a\\\"b"`, `a`},
		{`token t x; rule a "x"`, `"x" t`, `a`},
		{`rule a b b; token t x; rule b t; token u x`, `t u`, `a b`},
	} {
		f := made(t, c.lines)
		if terms, nons := strings.Join(f.Terms, " "), strings.Join(f.Nons, " "); terms != c.terms || nons != c.nons {
			t.Errorf("%s: %s and %s, not %s and %s", c.lines, terms, nons, c.terms, c.nons)
		}
	}
}

// holdShown fails where something else comes of a first rule with a body.
func holdShown(t *testing.T, all [][2]string) {
	t.Helper()
	const rest = `; rule b "y"; rule c "z"; token t x`
	for _, c := range all {
		want := strings.Replace(c[1], "/", `b -> "y"; c -> "z"`, 1)
		if got := shown(t, "rule a "+c[0]+rest); got != want {
			t.Errorf("%s: %s, not %s", c[0], got, want)
		}
	}
}

func TestMakeOfAlternatives(t *testing.T) {
	holdShown(t, [][2]string{
		{``, `a ->; /`},
		{`b`, `a -> b; /`},
		{`t`, `a -> t; /`},
		{`"x"`, `a -> "x"; /`},
		{`b c`, `a -> b c; /`},
		{`b b b`, `a -> b b b; /`},
		{`b | c`, `a -> b; a -> c; /`},
		{`b | `, `a -> b; a ->; /`},
		{` | b`, `a ->; a -> b; /`},
		{` | `, `a ->; a ->; /`},
		{`b | b`, `a -> b; a -> b; /`},
		{`b c | t | "x" a`, `a -> b c; a -> t; a -> "x" a; /`},
		{`(b | c) | t`, `a -> b; a -> c; a -> t; /`},
		{`t | ((b | c) | "x") | a "x"`, `a -> t; a -> b; a -> c; a -> "x"; a -> a "x"; /`},
		{`(b c) | t`, `a -> b c; a -> t; /`},
		{`((b | c))`, `a -> b; a -> c; /`},
		{`%2 b`, `a -> b %2; /`},
		{`%2`, `a -> %2; /`},
		{`%-2`, `a -> %-2; /`},
		{`%0 b`, `a -> b; /`},
		{`%2 b c`, `a -> b c %2; /`},
		{`%2 b | c`, `a -> b %2; a -> c; /`},
		{`b | %-2 c`, `a -> b; a -> c %-2; /`},
		{`%2 b | %3 c | %-4`, `a -> b %2; a -> c %3; a -> %-4; /`},
		{`%2 (b | c)`, `a -> b %2; a -> c %2; /`},
		{`%2 (b | %3 c) | t`, `a -> b %2; a -> c %5; a -> t; /`},
		{`%2 (b | %3 (c | %-4 t | )) | %1 "x"`, `a -> b %2; a -> c %5; a -> t %1; a -> %5; a -> "x" %1; /`},
		{`%2 (%3 b)`, `a -> b %5; /`},
		{`%2 (%-2 b)`, `a -> b; /`},
		{`%-2 (%-3 (%1 b c | t))`, `a -> b c %-4; a -> t %-5; /`},
		{`%99 (%99 (%99 b))`, `a -> b %297; /`},
		{`%-99 (%-99 (%-99 b))`, `a -> b %-297; /`},
		{`%2 x:b`, `a -> x:b %2; /`},
		{`%2 b=y`, `a -> b=y %2; /`},
	})
}

// The outermost Field, and the outermost Alias, is taken, whatever stands between.
func TestMakeOfFieldsAndAliases(t *testing.T) {
	holdShown(t, [][2]string{
		{`x:b`, `a -> x:b; /`},
		{`x:t`, `a -> x:t; /`},
		{`x:"x"`, `a -> x:"x"; /`},
		{`b=y`, `a -> b=y; /`},
		{`"x"=y`, `a -> "x"=y; /`},
		{`x:b=y`, `a -> x:b=y; /`},
		{`x:(b=y)`, `a -> x:b=y; /`},
		{`x:b=x`, `a -> x:b=x; /`},
		{`v:(w:b)`, `a -> v:b; /`},
		{`(b=y)=z`, `a -> b=z; /`},
		{`v:(w:b=y)=z`, `a -> v:b=z; /`},
		{`v:((w:(b=y))=z)`, `a -> v:b=z; /`},
		{`(v:(w:(b=y)))=z`, `a -> v:b=z; /`},
		{`u:(v:(w:b))`, `a -> u:b; /`},
		{`((b=x)=y)=z`, `a -> b=z; /`},
		{`u:((v:b=x)=y)`, `a -> u:b=y; /`},
		{`x:b c=y x:"x"=x t`, `a -> x:b c=y x:"x"=x t; /`},
		{`x:b | c=y`, `a -> x:b; a -> c=y; /`},
	})
}

// What stands over a part that has a helper stands over the helper, and not within it.
func TestMakeOfFieldsOverHelpers(t *testing.T) {
	holdShown(t, [][2]string{
		{`x:b*`, `a -> x:#1; /; #1 ->; #1 -> #1 b`},
		{`x:b+`, `a -> x:#1; /; #1 -> b; #1 -> #1 b`},
		{`x:b?`, `a -> x:#1; /; #1 ->; #1 -> b`},
		{`x:(b c)`, `a -> x:#1; /; #1 -> b c`},
		{`x:()`, `a -> x:#1; /; #1 ->`},
		{`x:(b | c)`, `a -> x:#1; /; #1 -> b; #1 -> c`},
		{`x:(%2 b)`, `a -> x:#1; /; #1 -> b %2`},
		{`b*=y`, `a -> #1=y; /; #1 ->; #1 -> #1 b`},
		{`b+=y`, `a -> #1=y; /; #1 -> b; #1 -> #1 b`},
		{`b?=y`, `a -> #1=y; /; #1 ->; #1 -> b`},
		{`(b c)=y`, `a -> #1=y; /; #1 -> b c`},
		{`()=y`, `a -> #1=y; /; #1 ->`},
		{`(b | c)=y`, `a -> #1=y; /; #1 -> b; #1 -> c`},
		{`(%2 b)=y`, `a -> #1=y; /; #1 -> b %2`},
		{`v:(w:(x:b c*)=y)=z`, `a -> v:#1=z; /; #1 -> x:b #2; #2 ->; #2 -> #2 c`},
		{`(x:b)*`, `a -> #1; /; #1 ->; #1 -> #1 x:b`},
		{`(x:b)+`, `a -> #1; /; #1 -> x:b; #1 -> #1 x:b`},
		{`(x:b)?`, `a -> #1; /; #1 ->; #1 -> x:b`},
		{`(b=y)*`, `a -> #1; /; #1 ->; #1 -> #1 b=y`},
		{`(b=y)+`, `a -> #1; /; #1 -> b=y; #1 -> #1 b=y`},
		{`(b=y)?`, `a -> #1; /; #1 ->; #1 -> b=y`},
		{`w:(x:b=y)+=z`, `a -> w:#1=z; /; #1 -> x:b=y; #1 -> #1 x:b=y`},
		{`(x:(b c)=y)+`, `a -> #1; /; #1 -> x:#2=y; #1 -> #1 x:#2=y; #2 -> b c`},
	})
}

func TestMakeOfHelpers(t *testing.T) {
	holdShown(t, [][2]string{
		{`b*`, `a -> #1; /; #1 ->; #1 -> #1 b`},
		{`b+`, `a -> #1; /; #1 -> b; #1 -> #1 b`},
		{`b?`, `a -> #1; /; #1 ->; #1 -> b`},
		{`"x"*`, `a -> #1; /; #1 ->; #1 -> #1 "x"`},
		{`t+`, `a -> #1; /; #1 -> t; #1 -> #1 t`},
		{`(b c)*`, `a -> #1; /; #1 ->; #1 -> #1 #2; #2 -> b c`},
		{`(b c)+`, `a -> #1; /; #1 -> #2; #1 -> #1 #2; #2 -> b c`},
		{`(b c)?`, `a -> #1; /; #1 ->; #1 -> b c`},
		{`()?`, `a -> #1; /; #1 ->; #1 ->`},
		{`(b | c)*`, `a -> #1; /; #1 ->; #1 -> #1 #2; #2 -> b; #2 -> c`},
		{`(b | c)+`, `a -> #1; /; #1 -> #2; #1 -> #1 #2; #2 -> b; #2 -> c`},
		{`(b | %3 c | )?`, `a -> #1; /; #1 ->; #1 -> b; #1 -> c %3; #1 ->`},
		{`(%2 b)*`, `a -> #1; /; #1 ->; #1 -> #1 #2; #2 -> b %2`},
		{`(%2 b)+`, `a -> #1; /; #1 -> #2; #1 -> #1 #2; #2 -> b %2`},
		{`(%2 b)?`, `a -> #1; /; #1 ->; #1 -> b %2`},
		{`(%2 (b c | %3 t))?`, `a -> #1; /; #1 ->; #1 -> b c %2; #1 -> t %5`},
		{`(b+)*`, `a -> #1; /; #1 ->; #1 -> #1 #2; #2 -> b; #2 -> #2 b`},
		{`(b+)+`, `a -> #1; /; #1 -> #2; #1 -> #1 #2; #2 -> b; #2 -> #2 b`},
		{`(b+)?`, `a -> #1; /; #1 ->; #1 -> #2; #2 -> b; #2 -> #2 b`},
		{`(b*)?`, `a -> #1; /; #1 ->; #1 -> #2; #2 ->; #2 -> #2 b`},
		{`(b?)?`, `a -> #1; /; #1 ->; #1 -> #2; #2 ->; #2 -> b`},
		{`((b+)+)+`, `a -> #1; /; #1 -> #2; #1 -> #1 #2; #2 -> #3; #2 -> #2 #3; #3 -> b; #3 -> #3 b`},
		{`b* | c`, `a -> #1; a -> c; /; #1 ->; #1 -> #1 b`},
		{`%2 b*`, `a -> #1 %2; /; #1 ->; #1 -> #1 b`},
		{`() b`, `a -> #1 b; /; #1 ->`},
		{`() ()`, `a -> #1 #2; /; #1 ->; #2 ->`},
		{`(b c) t`, `a -> #1 t; /; #1 -> b c`},
		{`t (b | c | )`, `a -> t #1; /; #1 -> b; #1 -> c; #1 ->`},
		{`(%2 b) t`, `a -> #1 t; /; #1 -> b %2`},
		{`(%2 b c | t) (%-1)`, `a -> #1 #2; /; #1 -> b c %2; #1 -> t; #2 -> %-1`},
		{`%1 (%2 (b | c) t | %3 (%4 t))`, `a -> #1 t %3; a -> t %8; /; #1 -> b; #1 -> c`},
		{`b* b*`, `a -> #1 #2; /; #1 ->; #1 -> #1 b; #2 ->; #2 -> #2 b`},
		{`((b c) t) "x"`, `a -> #1 "x"; /; #1 -> #2 t; #2 -> b c`},
	})
}

// Helpers get their numbers as their items are made: those of all rules ahead of those within helpers, production by production, from the left.
func TestMakeNumbersHelpers(t *testing.T) {
	for _, c := range [][2]string{
		{`rule a (b c)? (b c)* | b?; rule b "x" c?; rule c "y"+`,
			`a -> #1 #2; a -> #3; b -> "x" #4; c -> #5; #1 ->; #1 -> b c; #2 ->; #2 -> #2 #6; #3 ->; #3 -> b; #4 ->; #4 -> c; #5 -> "y"; #5 -> #5 "y"; #6 -> b c`},
		{`rule a (("x" "y")+ "z"?)* ("w" | "v"?); rule b (a "y")?`,
			`a -> #1 #2; b -> #3; #1 ->; #1 -> #1 #4; #2 -> "w"; #2 -> #5; #3 ->; #3 -> a "y"; #4 -> #6 #7; #5 ->; #5 -> "v"; #6 -> #8; #6 -> #6 #8; #7 ->; #7 -> "z"; #8 -> "x" "y"`},
		{`rule a f:("x" | g:("y" "z")+=h) | ("x"?)=i`,
			`a -> f:#1; a -> #2=i; #1 -> "x"; #1 -> g:#3=h; #2 ->; #2 -> "x"; #3 -> #4; #3 -> #3 #4; #4 -> "y" "z"`},
	} {
		if got := shown(t, c[0]); got != c[1] {
			t.Errorf("%s: %s, not %s", c[0], got, c[1])
		}
	}
	many := strings.Repeat(`"x"? `, 12)
	if got := shown(t, "rule a "+many); !strings.HasPrefix(got, "a -> #1 #2 #3 #4 #5 #6 #7 #8 #9 #10 #11 #12; #1 ->; ") || !strings.HasSuffix(got, `#12 ->; #12 -> "x"`) {
		t.Errorf("twelve helpers: %s", got)
	}
}

// A production has the symbols' numbers, the terminals' from 0 on, then the others'.
func TestMakeNumbersSymbols(t *testing.T) {
	want := api.Flat{
		Terms: []string{`"x"`, `"t"`, "t", "s"},
		Nons:  []string{"a", "_b", "#1"},
		Prods: []api.Prod{
			{Left: 4, Right: []api.Item{{Sym: 0, Field: "f", Alias: "g"}, {Sym: 6}}, Prec: -3},
			{Left: 5, Right: []api.Item{{Sym: 2}, {Sym: 1}}},
			{Left: 5},
			{Left: 6, Right: []api.Item{{Sym: 4, Field: "t"}}},
			{Left: 6, Right: []api.Item{{Sym: 6}, {Sym: 4, Field: "t"}}},
		},
	}
	if got := made(t, `token t x; skip s y; rule a %-3 f:"x"=g (t:a)+; rule _b t "t" | `); !Same(got, want) {
		t.Errorf("%v, not %v", got, want)
	}
}
