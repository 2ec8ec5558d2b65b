package flat

import (
	"fmt"
	"slices"
	"testing"

	"bramble/api"
	"bramble/check"
	"bramble/gram"
)

func alt(l ...api.Gx) api.Gx { return api.Gx{Op: api.GxAlt, Subs: l} }

// over is a part of a kind with one sub.
func over(op int, x api.Gx) api.Gx {
	y := api.Gx{Op: op, Subs: []api.Gx{x}}
	if op == api.GxField || op == api.GxAlias {
		y.Name = "f"
	}
	return y
}

// many is as many of a part.
func many(n int, x api.Gx) []api.Gx { return slices.Repeat([]api.Gx{x}, n) }

// holdErr fails where Make tells another error of a grammar in which nothing else is wrong, or something beside one.
func holdErr(t *testing.T, what string, g api.Gram, want api.Errno) api.Flat {
	t.Helper()
	if err, place := check.Check(g); err != api.OK {
		t.Fatalf("%s: %v at %d (fit: %v)", what, err, place, gram.Fit(g))
	}
	f, err := Make(g)
	if err != want {
		t.Errorf("%s: %v, not %v", what, err, want)
	}
	if err != api.OK && (f.Terms != nil || f.Nons != nil || f.Prods != nil) {
		t.Errorf("%s: beside %v stands %v", what, err, f)
	}
	return f
}

// Each error that Check tells is ErrState, whatever else is too many.
func TestMakeTellsState(t *testing.T) {
	alone := []string{
		`rule a "x"; rule a "y"`,
		`token a x; rule a "y"`,
		`rule _a "x"`,
		`token t x*; rule a "x"`,
		`rule a none`,
		`skip s x; rule a s`,
		`rule a ("x"?)*`,
		`rule a ("x"?)+`,
		`rule a a`,
		`rule a b; rule b a | "x"`,
		`rule a a a | `,
	}
	errs := map[api.Errno]int{}
	for _, lines := range alone {
		g := read(t, lines)
		err, _ := check.Check(g)
		errs[err]++
		h := read(t, lines)
		h.Rules = append(h.Rules, api.Rule{Name: "wide", Body: cat(many(65, lit("x"))...)})
		for _, wrong := range []api.Gram{g, h} {
			if f, err := Make(wrong); err != api.ErrState || f.Terms != nil || f.Nons != nil || f.Prods != nil {
				t.Errorf("%s: %v, %v", lines, f, err)
			}
		}
	}
	for _, err := range []api.Errno{api.ErrTwice, api.ErrName, api.ErrEmpty, api.ErrNone, api.ErrKind, api.ErrRound} {
		if errs[err] == 0 {
			t.Errorf("no grammar with %v", err)
		}
	}
	for i, g := range []api.Gram{
		{},
		{Name: "g"},
		{Rules: []api.Rule{{Name: "a", Body: lit("x")}}},
		bodies(api.Gx{}),
		bodies(cat(lit("x"))),
		bodies(alt(lit("x"))),
		bodies(lit("")),
		bodies(lit("x", lit("y"))),
		bodies(api.Gx{Op: api.GxStar}),
		bodies(api.Gx{Op: api.NumGxs}),
		bodies(api.Gx{Op: api.GxPrec, Num: 100, Subs: []api.Gx{lit("x")}}),
		bodies(cat(many(400, lit("x"))...)),
		bodies(many(65, lit("x"))...),
		{Name: "g", Tokens: []api.Token{{Name: "t"}}, Rules: []api.Rule{{Name: "a", Body: lit("x")}}},
	} {
		if f, err := Make(g); err != api.ErrState || f.Terms != nil || f.Nons != nil || f.Prods != nil {
			t.Errorf("unfit %d: %v, %v", i, f, err)
		}
	}
}

func TestMakeCountsItems(t *testing.T) {
	for n, want := range map[int]api.Errno{0: api.OK, 2: api.OK, 63: api.OK, 64: api.OK, 65: api.ErrMany, 66: api.ErrMany, 128: api.ErrMany, 300: api.ErrMany} {
		wide := cat(many(n, lit("x"))...)
		for i, x := range []api.Gx{
			wide,
			over(api.GxPrec, wide),
			over(api.GxOpt, wide),
			over(api.GxField, wide),
			over(api.GxAlias, wide),
			alt(wide, lit("y")),
			alt(lit("y"), wide),
			cat(lit("y"), wide),
			cat(wide, lit("y"), lit("y")),
			over(api.GxStar, cat(lit("y"), wide)),
			over(api.GxPlus, alt(lit("y"), cat(lit("y"), over(api.GxOpt, wide)))),
		} {
			holdErr(t, fmt.Sprintf("%d items, body %d", n, i), bodies(x), want)
			holdErr(t, fmt.Sprintf("%d items, behind, body %d", n, i), bodies(lit("x"), name("r0"), x), want)
		}
	}
	f := holdErr(t, "64 items", bodies(cat(many(64, lit("x"))...)), api.OK)
	if len(f.Prods[0].Right) != 64 {
		t.Errorf("%d items are made of 64", len(f.Prods[0].Right))
	}
}

func TestMakeCountsProductions(t *testing.T) {
	maybe := over(api.GxOpt, lit("x"))
	// A GxOpt of a literal is an alternative, and has a helper with two.
	for _, c := range []struct {
		what  string
		g     api.Gram
		prods int
	}{
		{"alternatives", bodies(alt(many(399, lit("x"))...)), 399},
		{"alternatives, one with a helper", bodies(alt(append(many(397, lit("x")), maybe)...)), 400},
		{"alternatives, two with helpers", bodies(alt(append(many(395, lit("x")), maybe, maybe)...)), 401},
		{"helpers alone", bodies(alt(many(133, maybe)...)), 399},
		{"helpers, and one more", bodies(alt(append(many(133, maybe), lit("x"))...)), 400},
		{"helpers, and two more", bodies(alt(append(many(133, maybe), lit("x"), lit("y"))...)), 401},
		{"far too many", bodies(alt(many(199, maybe)...)), 597},
		{"rules", bodies(append(many(62, lit("x")), alt(many(169, lit("x"))...), alt(many(166, lit("x"))...))...), 397},
		{"rules and helpers", bodies(append(many(63, lit("x")), alt(append(many(276, lit("x")), many(20, over(api.GxPlus, lit("x")))...)...))...), 399},
		{"rules and helpers, and one more", bodies(append(many(63, lit("x")), alt(append(many(277, lit("x")), many(20, over(api.GxPlus, lit("x")))...)...))...), 400},
		{"rules and helpers, and two more", bodies(append(many(63, lit("x")), alt(append(many(278, lit("x")), many(20, over(api.GxStar, lit("x")))...)...))...), 401},
	} {
		want := api.OK
		if c.prods > 400 {
			want = api.ErrMany
		}
		f := holdErr(t, c.what, c.g, want)
		if want == api.OK && len(f.Prods) != c.prods {
			t.Errorf("%s: %d productions, not %d", c.what, len(f.Prods), c.prods)
		}
	}
}

// A grammar has at most 64 tokens, 64 rules and 400 parts, of which each has at most one symbol: as many symbols as it can have are not too many.
func TestMakeOfMostSymbols(t *testing.T) {
	literals := 0
	own := func() api.Gx {
		literals++
		return lit(fmt.Sprint("x", literals))
	}
	var rules []api.Gx
	for range 58 {
		rules = append(rules, own())
	}
	for range 6 {
		row := cat()
		for range 55 {
			row.Subs = append(row.Subs, own())
		}
		rules = append(rules, over(api.GxPlus, row))
	}
	g := bodies(rules...)
	for i := range 64 {
		g.Tokens = append(g.Tokens, api.Token{Name: fmt.Sprint("t", i), Rex: api.Rex{Op: api.RxSet, Set: []api.Runes{{Lo: 'a', Hi: 'z'}}}})
	}
	f := holdErr(t, "all symbols", g, api.OK)
	if got := len(f.Terms) + len(f.Nons); got != 528 {
		t.Errorf("%d symbols, not 528", got)
	}
}

// row is parts one behind the other: one alone is itself.
func row(l ...api.Gx) api.Gx {
	if len(l) == 1 {
		return l[0]
	}
	return cat(l...)
}

// filler is rules that come of nothing in so many parts in all, and the parts that name them. A GxCat of nothing within another part is a helper, of one part.
func filler(parts int) ([]api.Rule, []api.Gx) {
	var rules []api.Rule
	var names []api.Gx
	for parts > 0 {
		n := min(parts, 60)
		parts -= n
		x := cat(many(n-1, cat())...)
		if n == 2 {
			x = over(api.GxField, cat())
		}
		rules = append(rules, api.Rule{Name: fmt.Sprint("filler", len(rules)), Body: x})
		names = append(names, name(rules[len(rules)-1].Name))
	}
	return rules, names
}

// filled is a grammar with one rule more, that comes of nothing in 1 part, those of a rule, and as many of fillers.
func filled(g api.Gram, rule string, parts int) api.Gram {
	rules, names := filler(parts)
	whole := api.Rule{Name: "filled", Body: row(append(names, name(rule))...)}
	g.Rules = slices.Concat(g.Rules, rules, []api.Rule{whole})
	return g
}

// A rule's number is told by how much more there may be beside it: 200 in all.
func TestMakeCountsPartsOfNothing(t *testing.T) {
	for _, c := range []struct {
		lines string
		parts int
	}{
		{`rule a `, 1},
		{`rule a %2`, 1},
		{`rule a x:()`, 2},
		{`rule a x:()=y`, 2},
		{`rule a "x"?`, 2},
		{`rule a "x"*`, 2},
		{`rule a ("x" | )`, 1},
		{`rule a y:("x" | )`, 2},
		{`rule a ("x"?)?`, 3},
		{`rule a ("x"*)?`, 3},
		{`rule a (("x"?)?)?`, 4},
		{`rule a "x"? "x"?`, 3},
		{`rule a ("x" "y")* ("x" | "y")?`, 3},
		{`rule a () ()`, 3},
		{`rule a () (() ())`, 5},
		{`rule a b; rule b `, 2},
		{`rule a b b b; rule b `, 4},
		{`rule a b c b; rule b ; rule c b b`, 6},
		{`rule a b; rule b c; rule c d; rule d `, 4},
		{`rule a | b; rule b `, 2},
		{`rule a b | ; rule b `, 2},
		{`rule a b | b b b | b b; rule b `, 4},
		{`rule a b b b "x" | b b; rule b `, 3},
		{`rule a "x" b b b | b b; rule b `, 3},
		{`rule a c b b b | b b; rule b ; rule c "x"`, 3},
		{`token t x; rule a t b b b | b b; rule b `, 3},
		{`rule a a "x" | b; rule b `, 2},
		{`rule a "x" a | b a "x" b | b b; rule b `, 3},
		{`rule a (b b)?; rule b `, 4},
		{`rule a (b "x")* b?; rule b `, 4},
		{`rule a (b "x")+ | ; rule b `, 1},
		{`rule a b | c; rule b c c; rule c "x"? | `, 6},
		{`rule a d c b; rule b c? | "x"; rule c d d; rule d ( | )`, 10},
		{`rule a x:(y:(z:()))`, 2},
		{`rule a (%1 (%2 ()))?`, 2},
		{`rule a (%1 x:(%2 ()))?`, 3},
	} {
		g := read(t, c.lines)
		holdErr(t, c.lines+" in 200 parts", filled(g, "a", 199-c.parts), api.OK)
		holdErr(t, c.lines+" in 201 parts", filled(g, "a", 200-c.parts), api.ErrMany)
		holdErr(t, c.lines+" in 202 parts", filled(g, "a", 201-c.parts), api.ErrMany)
	}
}

// Every symbol of Nons counts: the first, one that none uses, a helper; but not what a token stands in.
func TestMakeCountsPartsOfNothingOfAll(t *testing.T) {
	for parts := 190; parts <= 210; parts++ {
		rules, names := filler(parts)
		maybe := over(api.GxOpt, row(names...))
		for _, c := range []struct {
			what  string
			body  api.Gx
			parts int
		}{
			{"fillers", row(names...), parts + 1},
			{"fillers, or more with a token", alt(row(slices.Concat(names, []api.Gx{lit("x")}, names)...), row(names...)), parts + 1},
			{"a helper alone", maybe, parts + 2},
			{"a helper beside a token", row(maybe, lit("x")), parts + 1},
			{"fillers beside a token", row(slices.Concat(names, []api.Gx{lit("x")})...), 60},
			{"fillers, each alone", alt(names...), 61},
		} {
			want := api.OK
			if c.parts > 200 {
				want = api.ErrMany
			}
			r := []api.Rule{{Name: "own", Body: c.body}}
			text := []api.Rule{{Name: "text", Body: lit("x")}}
			what := fmt.Sprintf("%s of %d parts", c.what, parts)
			holdErr(t, what, api.Gram{Name: "g", Rules: slices.Concat(r, rules)}, want)
			holdErr(t, what+", unused", api.Gram{Name: "g", Rules: slices.Concat(text, rules, r)}, want)
		}
	}
}

// Numbers that double, or more, from rule to rule are too many, and stay so, however great they grow.
func TestMakeOfPartsBeyondNumbers(t *testing.T) {
	for _, items := range []int{2, 4, 5} {
		for rules := 1; rules <= 64; rules++ {
			var l []api.Gx
			for i := range rules - 1 {
				l = append(l, cat(many(items, name(fmt.Sprint("r", i+1)))...))
			}
			l = append(l, cat())
			parts, want := 1, api.OK
			for range rules - 1 {
				parts = min(1+items*parts, 1000)
			}
			if parts > 200 {
				want = api.ErrMany
			}
			holdErr(t, fmt.Sprintf("%d rules of %d items", rules, items), bodies(l...), want)
		}
	}
}

// The numbers do not hang on which rule stands ahead of which.
func TestMakeOfPartsInAnyOrder(t *testing.T) {
	rules := []api.Rule{
		{Name: "mid", Body: cat(many(3, name("low"))...)}, // 13 parts
		{Name: "low", Body: cat(many(3, name("end"))...)}, // 4 parts
		{Name: "end", Body: cat()},
	}
	for _, order := range [][3]int{{0, 1, 2}, {0, 2, 1}, {1, 0, 2}, {1, 2, 0}, {2, 0, 1}, {2, 1, 0}} {
		for n, want := range map[int]api.Errno{3: api.OK, 4: api.OK, 5: api.ErrMany, 6: api.ErrMany} {
			whole := cat(append(many(15, name("mid")), many(n, name("end"))...)...)
			g := api.Gram{Name: "g", Rules: []api.Rule{{Name: "a", Body: whole}}}
			for _, i := range order {
				g.Rules = append(g.Rules, rules[i])
			}
			holdErr(t, fmt.Sprintf("%d parts in order %v", 196+n, order), g, want)
		}
	}
}
