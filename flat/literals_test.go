package flat

import (
	"fmt"
	"slices"
	"strings"
	"testing"

	"bramble/api"
	"bramble/gram"
	"bramble/sample"
)

// read is a grammar of lines, with ; and a blank between.
func read(t *testing.T, lines string) api.Gram {
	t.Helper()
	g, line, f := gram.Parse("grammar g\n" + strings.ReplaceAll(lines, "; ", "\n"))
	if f.Err != api.OK {
		t.Fatalf("%q is no grammar: %v in line %d", lines, f, line)
	}
	return g
}

func name(s string) api.Gx { return api.Gx{Op: api.GxName, Name: s} }

func lit(s string, subs ...api.Gx) api.Gx { return api.Gx{Op: api.GxLit, Name: s, Subs: subs} }

func cat(l ...api.Gx) api.Gx { return api.Gx{Op: api.GxCat, Subs: l} }

// bodies is a grammar of rules r0, r1 and so on with these Bodies.
func bodies(l ...api.Gx) api.Gram {
	g := api.Gram{Name: "g"}
	for i, x := range l {
		g.Rules = append(g.Rules, api.Rule{Name: fmt.Sprint("r", i), Body: x})
	}
	return g
}

func TestLiteralsTold(t *testing.T) {
	for _, c := range []struct {
		lines string
		want  []string
	}{
		{`rule a `, nil},
		{`token t x; rule a t`, nil},
		{`token t x; rule a x:t=y t* (t | )`, nil},
		{`rule a "x"`, []string{"x"}},
		{`rule a "x" "x"`, []string{"x"}},
		{`rule a "y" "x"`, []string{"y", "x"}},
		{`rule a "y" "x" "y" "z" "x"`, []string{"y", "x", "z"}},
		{`rule a "y" | "x"`, []string{"y", "x"}},
		{`rule a "y"*`, []string{"y"}},
		{`rule a "y"+`, []string{"y"}},
		{`rule a "y"?`, []string{"y"}},
		{`rule a f:"y"`, []string{"y"}},
		{`rule a "y"=f`, []string{"y"}},
		{`rule a %3 "y"`, []string{"y"}},
		{`rule a ("z" "y")* "x"`, []string{"z", "y", "x"}},
		{`rule a "z" ("y" | %1 f:("x"+)=g "w"?) "v"*`, []string{"z", "y", "x", "w", "v"}},
		{`rule a "w" b "x"; rule b "y" "w" "z"; rule c "x" "v"`, []string{"w", "x", "y", "z", "v"}},
		{`rule a b; rule b "b"; rule c "a"`, []string{"b", "a"}},
		{`token x x; token y y; rule a "y" x "x"`, []string{"y", "x"}},
		{`rule a "\"" "\\" "\\\"" " " "a b" "#" "'"`, []string{`"`, `\`, `\"`, " ", "a b", "#", "'"}},
		{`rule a "X" "x" "xx" "x "`, []string{"X", "x", "xx", "x "}},
		{`rule a a; rule a "x" none`, []string{"x"}},
	} {
		if got := Literals(read(t, c.lines)); !slices.Equal(got, c.want) || len(got) == 0 && got != nil {
			t.Errorf("%s: %q, not %q", c.lines, got, c.want)
		}
	}
	if got := Literals(api.Gram{}); got != nil {
		t.Errorf("of nothing: %q", got)
	}
}

// A literal is found wherever it stands, ahead of what is within it: in parts of each kind, known or not.
func TestLiteralsOfUnfit(t *testing.T) {
	for op := -2; op <= api.NumGxs+2; op++ {
		x := api.Gx{Op: op, Name: "own", Num: 7, Subs: []api.Gx{lit("b"), {Op: op, Name: "inner", Subs: []api.Gx{lit("c", lit("d"), name("e"))}}, lit("a"), lit("b")}}
		want := []string{"b", "c", "d", "a"}
		if op == api.GxLit {
			want = []string{"own", "b", "inner", "c", "d", "a"}
		}
		if got := Literals(bodies(x)); !slices.Equal(got, want) {
			t.Errorf("kind %d: %q, not %q", op, got, want)
		}
		if got := Literals(bodies(lit("z"), x, x, lit("y"))); !slices.Equal(got, append([]string{"z"}, append(want, "y")...)) {
			t.Errorf("kind %d, in rules: %q", op, got)
		}
	}
	odd := []string{"", "\xff", "\n", "é", long(99), "\x00"}
	var subs []api.Gx
	for _, s := range append(odd, odd...) {
		subs = append(subs, lit(s))
	}
	if got := Literals(api.Gram{Rules: []api.Rule{{Body: cat(subs...)}}}); !slices.Equal(got, odd) {
		t.Errorf("%q, not %q", got, odd)
	}
}

func TestLiteralsOfManyParts(t *testing.T) {
	var subs []api.Gx
	var want []string
	for i := range 4998 {
		s := fmt.Sprint("n", i)
		subs = append(subs, lit(s))
		want = append(want, s)
	}
	if got := Literals(bodies(cat(subs...), lit("z"))); !slices.Equal(got, append(slices.Clone(want), "z")) {
		t.Errorf("5000 parts side by side: %d literals", len(got))
	}
	deep := lit("n4997", lit("n1"), lit("n0"))
	for i := range 4997 {
		deep = lit(fmt.Sprint("n", 4996-i), deep)
	}
	if got := Literals(bodies(deep)); !slices.Equal(got, want) {
		t.Errorf("5000 parts within one another: %d literals", len(got))
	}
	rules := slices.Repeat([]api.Gx{lit("a")}, 4999)
	if got := Literals(bodies(append(rules, lit("b"))...)); !slices.Equal(got, []string{"a", "b"}) {
		t.Errorf("5000 rules: %q", got)
	}
}

// Of what has too many parts no promise is made but that the calls end, and that nothing can be made of it.
func TestEndlessEnds(t *testing.T) {
	for _, x := range sample.Endless() {
		for _, g := range []api.Gram{bodies(x), bodies(lit("a"), name("r0"), x, x)} {
			Literals(g)
			if f, err := Make(g); err != api.ErrState || !Same(f, api.Flat{}) {
				t.Errorf("kind %d: %v, %v", x.Op, f, err)
			}
		}
	}
}
