package gram

import (
	"slices"
	"strings"
	"testing"

	"bramble/api"
	"bramble/rex"
)

// kinds is a fit part of each kind.
func kinds() []api.Gx {
	a := name("a")
	return []api.Gx{a, lit("a"), cat(a, a), alt(a, a), star(a), plus(a), opt(a), field("a", a), alias(a, "a"), prec(1, a)}
}

func TestFitBodyOfKinds(t *testing.T) {
	for _, x := range kinds() {
		if !FitBody(x) {
			t.Errorf("%v is not fit", x)
		}
	}
	for _, op := range []int{-1 << 63, -1, 0, 11, 12, 1<<63 - 1} {
		for n := range 4 {
			for _, s := range []string{"", "a"} {
				if x := (api.Gx{Op: op, Name: s, Subs: slices.Repeat([]api.Gx{name("a")}, n)}); FitBody(x) {
					t.Errorf("%v is fit", x)
				}
			}
		}
	}
}

func TestFitBodyCountsSubs(t *testing.T) {
	for _, x := range kinds() {
		for n := range 6 {
			want := n == 1
			switch x.Op {
			case api.GxName, api.GxLit:
				want = n == 0
			case api.GxCat:
				want = n != 1
			case api.GxAlt:
				want = n >= 2
			}
			x.Subs = slices.Repeat([]api.Gx{name("b")}, n)
			if FitBody(x) != want {
				t.Errorf("kind %d with %d subs: %v", x.Op, n, !want)
			}
		}
	}
	if !FitBody(api.Gx{Op: api.GxCat, Subs: []api.Gx{}}) || !FitBody(api.Gx{Op: api.GxName, Name: "a", Subs: []api.Gx{}}) {
		t.Error("an empty list is not none")
	}
}

func TestFitBodyOfNames(t *testing.T) {
	for _, s := range []string{"", "a", "Z9_", "9", "a b", " ", "~", "\"", "\\", "\x1f", "\x7f", "é", "a\n", "+-", strings.Repeat("a", 32), strings.Repeat("a", 33), strings.Repeat("+", 32), strings.Repeat("+", 33)} {
		for _, x := range kinds() {
			want := s == ""
			switch x.Op {
			case api.GxName, api.GxField, api.GxAlias:
				want = Name(s)
			case api.GxLit:
				want = s != "" && len(s) <= 32 && !strings.ContainsAny(s, "\x1f\x7f\né")
			}
			x.Name = s
			if FitBody(x) != want {
				t.Errorf("kind %d with the name %q: %v", x.Op, s, !want)
			}
		}
	}
	for n := range 256 {
		for _, ahead := range []string{"", "a"} {
			if FitBody(lit(ahead+string([]byte{byte(n)}))) != (n >= 32 && n <= 126) {
				t.Errorf("byte %d behind %q", n, ahead)
			}
		}
	}
}

func TestFitBodyOfNumbers(t *testing.T) {
	for _, n := range []int{-1 << 63, -100, -99, -1, 0, 1, 99, 100, 1<<63 - 1} {
		for _, x := range kinds() {
			want := n == 0
			if x.Op == api.GxPrec {
				want = n >= -99 && n <= 99
			}
			x.Num = n
			if FitBody(x) != want {
				t.Errorf("kind %d with the number %d: %v", x.Op, n, !want)
			}
		}
	}
}

// A part that is not fit is seen wherever it stands.
func TestFitBodyLooksWithin(t *testing.T) {
	wrong := []api.Gx{{}, name(""), lit(""), cat(name("a")), alt(name("a")), prec(100, name("a")), {Op: api.GxStar}, {Op: api.GxName, Name: "a", Num: 1}}
	for _, x := range wrong {
		for _, y := range wraps(x) {
			for _, z := range append(wraps(y), y) {
				if FitBody(z) {
					t.Fatalf("%v is fit", z)
				}
			}
		}
	}
	for _, x := range smalls() {
		if !FitBody(x) {
			t.Fatalf("%v is not fit", x)
		}
	}
}

func TestFitBodyCountsParts(t *testing.T) {
	a := name("a")
	for _, c := range []struct {
		what string
		x    api.Gx
		want bool
	}{
		{"400", many(400), true},
		{"401", many(401), false},
		{"400 within others", opt(field("x", many(398))), true},
		{"401 within others", opt(field("x", many(399))), false},
		{"400 in two", alt(many(200), many(199)), true},
		{"401 in two", alt(many(200), many(200)), false},
		{"400 of nothing", cat(slices.Repeat([]api.Gx{cat()}, 399)...), true},
		{"401 of nothing", cat(slices.Repeat([]api.Gx{cat()}, 400)...), false},
		{"400, the half stars", cat(append(slices.Repeat([]api.Gx{star(a)}, 199), a)...), true},
		{"401, the half stars", cat(slices.Repeat([]api.Gx{star(a)}, 200)...), false},
		{"a million", many(1000000), false},
	} {
		if FitBody(c.x) != c.want {
			t.Errorf("%s parts: %v", c.what, !c.want)
		}
	}
}

// nested is a body within GxCats, so that what Text writes has so many parentheses within one another.
func nested(depth int, x api.Gx) api.Gx {
	for range depth {
		x = cat(name("a"), x)
	}
	return x
}

// The parentheses are those that Text writes: the innermost one of each is just at the limit, or one behind it.
func TestFitBodyCountsParentheses(t *testing.T) {
	a, b := name("a"), name("b")
	for _, c := range []struct {
		what string
		most int // how deep the part may lie within GxCats
		x    api.Gx
	}{
		{"name", 17, a},
		{"literal", 17, lit("((((")},
		{"nothing", 16, cat()},
		{"cat", 16, cat(a, b)},
		{"cat of cat", 15, cat(a, cat(a, b))},
		{"alt", 16, alt(a, b)},
		{"alt of nothing", 16, alt(cat(), cat())},
		{"alt of cats", 16, alt(cat(a, b), cat(a, b))},
		{"alt of alts", 15, alt(a, alt(a, b))},
		{"star", 17, star(a)},
		{"star of cat", 16, star(cat(a, b))},
		{"star of nothing", 16, star(cat())},
		{"star of plus", 16, star(plus(a))},
		{"star of plus of opt", 15, star(plus(opt(a)))},
		{"field", 17, field("x", star(a))},
		{"field of field", 16, field("x", field("y", a))},
		{"alias", 17, alias(field("x", star(a)), "y")},
		{"alias of alias", 16, alias(alias(a, "y"), "y")},
		{"prec", 16, prec(1, a)},
		{"prec of cat", 16, prec(1, cat(a, b))},
		{"prec of nothing", 16, prec(1, cat())},
		{"prec of prec", 15, prec(1, prec(2, a))},
		{"prec of alt", 15, prec(1, alt(a, b))},
		{"alt of prec", 16, alt(prec(1, a), b)},
		{"the first of three", 14, cat(star(alt(prec(1, alt(a, b)), b)), b, a)},
	} {
		if !FitBody(nested(c.most, c.x)) {
			t.Errorf("%s at %d is not fit", c.what, c.most)
		}
		if FitBody(nested(c.most+1, c.x)) {
			t.Errorf("%s at %d is fit", c.what, c.most+1)
		}
		// Many side by side are not within one another.
		if !FitBody(cat(slices.Repeat([]api.Gx{nested(c.most-1, c.x)}, 5)...)) {
			t.Errorf("%s at %d, five times, is not fit", c.what, c.most)
		}
	}
}

func TestFitTold(t *testing.T) {
	if !Fit(small()) {
		t.Fatal("a grammar that should be fit is not")
	}
	long := strings.Repeat("n", 32)
	for i, change := range []func(*api.Gram){
		func(g *api.Gram) { g.Name = long },
		func(g *api.Gram) { g.Tokens = nil },
		func(g *api.Gram) { g.Tokens = []api.Token{} },
		func(g *api.Gram) { g.Rules = g.Rules[:1] },
		func(g *api.Gram) { g.Tokens[0].Name = long },
		func(g *api.Gram) { g.Rules[0].Name = long },
		func(g *api.Gram) { g.Tokens[0].Name, g.Rules[0].Name, g.Rules[1].Name = "g", "g", "g" },
		func(g *api.Gram) { g.Tokens[0].Rex = api.Rex{Op: api.RxEmpty} },
		func(g *api.Gram) { g.Tokens[0].Prog = []api.Ins{} },
		func(g *api.Gram) { g.Tokens[2].Rex = api.Rex{Set: []api.Runes{}, Subs: []api.Rex{}} },
		func(g *api.Gram) { g.Rules[0].Body = cat() },
	} {
		g := small()
		if change(&g); !Fit(g) {
			t.Errorf("change %d makes it not fit", i)
		}
	}
	for i, change := range []func(*api.Gram){
		func(g *api.Gram) { g.Name = "" },
		func(g *api.Gram) { g.Name = "a b" },
		func(g *api.Gram) { g.Name = long + "n" },
		func(g *api.Gram) { g.Rules = nil },
		func(g *api.Gram) { g.Rules = []api.Rule{} },
		func(g *api.Gram) { g.Tokens[0].Name = "" },
		func(g *api.Gram) { g.Tokens[3].Name = "9" },
		func(g *api.Gram) { g.Tokens[1].Name = long + "n" },
		func(g *api.Gram) { g.Tokens[0].Rex = api.Rex{} },
		func(g *api.Gram) { g.Tokens[0].Rex.Op = api.RxCat },
		func(g *api.Gram) { g.Tokens[1].Rex.Subs[0].Set[0].Lo = -1 },
		func(g *api.Gram) { g.Tokens[0].Prog = g.Tokens[2].Prog },
		func(g *api.Gram) { g.Tokens[2].Prog = nil },
		func(g *api.Gram) { g.Tokens[2].Prog = []api.Ins{} },
		func(g *api.Gram) { g.Tokens[2].Prog[0].Z = 3 },
		func(g *api.Gram) { g.Tokens[3].Prog = slices.Repeat([]api.Ins{{Op: api.InYes}}, 65) },
		func(g *api.Gram) { g.Tokens[2].Rex = api.Rex{Op: api.RxEmpty} },
		func(g *api.Gram) { g.Tokens[2].Rex = g.Tokens[0].Rex },
		func(g *api.Gram) { g.Tokens[2].Rex.Set = []api.Runes{{}} },
		func(g *api.Gram) { g.Tokens[2].Rex.Subs = []api.Rex{{}} },
		func(g *api.Gram) { g.Rules[0].Name = "" },
		func(g *api.Gram) { g.Rules[1].Name = "u-" },
		func(g *api.Gram) { g.Rules[0].Body = api.Gx{} },
		func(g *api.Gram) { g.Rules[1].Body = cat(name("a")) },
		func(g *api.Gram) { g.Rules[1].Body = nested(17, cat()) },
	} {
		g := small()
		if change(&g); Fit(g) {
			t.Errorf("change %d leaves it fit", i)
		}
	}
}

func TestFitCounts(t *testing.T) {
	for _, c := range []struct {
		tokens, rules int
		want          bool
	}{
		{64, 1, true}, {65, 1, false}, {0, 64, true}, {0, 65, false}, {64, 64, true}, {65, 65, false}, {64, 65, false}, {65, 64, false}, {64, 0, false},
	} {
		g := api.Gram{Name: "g"}
		g.Tokens = slices.Repeat([]api.Token{token("t", "a")}, c.tokens)
		g.Rules = slices.Repeat([]api.Rule{rule("r", name("t"))}, c.rules)
		if Fit(g) != c.want {
			t.Errorf("%d tokens, %d rules: %v", c.tokens, c.rules, !c.want)
		}
	}
	for _, c := range []struct {
		parts []int
		want  bool
	}{
		{[]int{400}, true}, {[]int{401}, false},
		{[]int{399, 1}, true}, {[]int{399, 3}, false}, {[]int{400, 1}, false}, {[]int{1, 400}, false},
		{[]int{200, 100, 99, 1}, true}, {[]int{200, 100, 100, 1}, false},
	} {
		g := api.Gram{Name: "g"}
		for _, n := range c.parts {
			g.Rules = append(g.Rules, rule("r", many(n)))
		}
		if Fit(g) != c.want {
			t.Errorf("%v parts: %v", c.parts, !c.want)
		}
	}
}

// Of many tokens each may be as great as it may be alone.
func TestFitOfGreatTokens(t *testing.T) {
	x, _ := rex.Plain(strings.Repeat("a", 400))
	g := api.Gram{Name: "g", Rules: []api.Rule{rule("r", many(400))}}
	for range 64 {
		g.Tokens = append(g.Tokens, api.Token{Name: "t", Rex: x})
	}
	if !Fit(g) {
		t.Error("64 tokens of 400 letters are not fit")
	}
	x.Subs = append(x.Subs, x.Subs[0])
	if g.Tokens[63].Rex = x; Fit(g) {
		t.Error("a token of 401 letters is fit")
	}
}
