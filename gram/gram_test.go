package gram

import (
	"slices"
	"strings"
	"testing"

	"bramble/api"
	"bramble/rex"
	"bramble/sample"
	"bramble/vm"
)

func name(s string) api.Gx               { return api.Gx{Op: api.GxName, Name: s} }
func lit(s string) api.Gx                { return api.Gx{Op: api.GxLit, Name: s} }
func cat(l ...api.Gx) api.Gx             { return api.Gx{Op: api.GxCat, Subs: l} }
func alt(l ...api.Gx) api.Gx             { return api.Gx{Op: api.GxAlt, Subs: l} }
func star(x api.Gx) api.Gx               { return api.Gx{Op: api.GxStar, Subs: []api.Gx{x}} }
func plus(x api.Gx) api.Gx               { return api.Gx{Op: api.GxPlus, Subs: []api.Gx{x}} }
func opt(x api.Gx) api.Gx                { return api.Gx{Op: api.GxOpt, Subs: []api.Gx{x}} }
func field(s string, x api.Gx) api.Gx    { return api.Gx{Op: api.GxField, Name: s, Subs: []api.Gx{x}} }
func alias(x api.Gx, s string) api.Gx    { return api.Gx{Op: api.GxAlias, Name: s, Subs: []api.Gx{x}} }
func prec(n int, x api.Gx) api.Gx        { return api.Gx{Op: api.GxPrec, Num: n, Subs: []api.Gx{x}} }
func rule(s string, x api.Gx) api.Rule   { return api.Rule{Name: s, Body: x} }
func fault(e api.Errno, n int) api.Fault { return api.Fault{Err: e, At: n} }

// many is a body of so many parts: itself, and names.
func many(parts int) api.Gx {
	return cat(slices.Repeat([]api.Gx{name("a")}, parts-1)...)
}

// token is a token by an expression.
func token(s, x string) api.Token {
	e, _ := rex.Parse(x)
	return api.Token{Name: s, Rex: e}
}

// scan is a token by a program.
func scan(s, p string) api.Token {
	prog, _ := vm.Parse(p)
	return api.Token{Name: s, Prog: prog}
}

// skipped is a token that stands between others.
func skipped(t api.Token) api.Token {
	t.Skip = true
	return t
}

// small is a grammar with a token of each kind, and two rules.
func small() api.Gram {
	return api.Gram{
		Name: "g",
		Tokens: []api.Token{
			token("t", "[a-z]+"),
			skipped(token("s", `\s+`)),
			scan("p", "char 97 97 2; yes"),
			skipped(scan("q", "char 98 98 2; yes")),
		},
		Rules: []api.Rule{rule("r", cat(name("t"), star(name("u")))), rule("u", alt(lit("+"), cat()))},
	}
}

// wraps is the parts of which some are a sub, one of each kind.
func wraps(x api.Gx) []api.Gx {
	a := name("a")
	return []api.Gx{
		cat(x, a), cat(a, x), cat(a, x, x), alt(x, a), alt(a, x), alt(a, x, x),
		star(x), plus(x), opt(x), field("x", x), alias(x, "y"), prec(2, x), prec(-10, x),
	}
}

// smalls is the bodies of at most three kinds within one another over a few leaves.
func smalls() []api.Gx {
	all := []api.Gx{name("a"), name("B_1"), lit("+"), lit("a\"b\\"), cat()}
	from := 0
	for range 3 {
		to := len(all)
		for _, x := range all[from:to] {
			all = append(all, wraps(x)...)
		}
		from = to
	}
	return all
}

// drawn is a body that is drawn, of at most so many kinds within one another.
func drawn(seed *sample.Seed, depth int) api.Gx {
	if depth == 0 || seed.Below(4) == 0 {
		return []api.Gx{name("a"), name("Zz_9"), lit("\\"), lit(" \" ~"), cat()}[seed.Below(5)]
	}
	var subs []api.Gx
	for range 2 + seed.Below(3) {
		subs = append(subs, drawn(seed, depth-1))
	}
	switch x := subs[0]; seed.Below(8) {
	case 0:
		return star(x)
	case 1:
		return plus(x)
	case 2:
		return opt(x)
	case 3:
		return field("f", x)
	case 4:
		return alias(x, "_")
	case 5:
		return prec(seed.Below(199)-99, x)
	case 6:
		return alt(subs...)
	}
	return cat(subs...)
}

// drawnGram is a fit grammar that is drawn.
func drawnGram(seed *sample.Seed) api.Gram {
	tokens := []api.Token{
		token("t", ""), token("u", " "), token("v", `a|b \n[^\n]`), token("w", "é\t[ -~]*"),
		scan("x", "yes"), scan("y", "char 0 255 2; goto 0; is 3 1; set 7; add 255; no"),
	}
	g := api.Gram{Name: "drawn"}
	for range seed.Below(9) {
		t := tokens[seed.Below(len(tokens))]
		t.Skip = seed.Below(2) == 0
		g.Tokens = append(g.Tokens, copiedToken(t))
	}
	for range 1 + seed.Below(6) {
		g.Rules = append(g.Rules, rule("r", drawn(seed, seed.Below(4))))
	}
	return g
}

func copied(x api.Gx) api.Gx {
	y := x
	y.Subs = nil
	for _, sub := range x.Subs {
		y.Subs = append(y.Subs, copied(sub))
	}
	return y
}

func copiedRex(x api.Rex) api.Rex {
	y := api.Rex{Op: x.Op, Set: slices.Clone(x.Set)}
	for _, sub := range x.Subs {
		y.Subs = append(y.Subs, copiedRex(sub))
	}
	return y
}

func copiedToken(t api.Token) api.Token {
	return api.Token{Name: t.Name, Rex: copiedRex(t.Rex), Prog: slices.Clone(t.Prog), Skip: t.Skip}
}

// copiedGram is a grammar in memory of its own.
func copiedGram(g api.Gram) api.Gram {
	h := api.Gram{Name: g.Name}
	for _, t := range g.Tokens {
		h.Tokens = append(h.Tokens, copiedToken(t))
	}
	for _, r := range g.Rules {
		h.Rules = append(h.Rules, rule(r.Name, copied(r.Body)))
	}
	return h
}

// spoil writes over everything that a body has in its lists.
func spoil(x api.Gx) {
	for i := range x.Subs {
		spoil(x.Subs[i])
		x.Subs[i] = api.Gx{Op: 99}
	}
}

func spoilRex(x api.Rex) {
	for i := range x.Set {
		x.Set[i] = api.Runes{Lo: 1, Hi: 2}
	}
	for i := range x.Subs {
		spoilRex(x.Subs[i])
		x.Subs[i] = api.Rex{Op: 99}
	}
}

// spoilGram writes over everything that a grammar has in its lists.
func spoilGram(g api.Gram) {
	for i, t := range g.Tokens {
		spoilRex(t.Rex)
		for j := range t.Prog {
			t.Prog[j] = api.Ins{Op: 99}
		}
		g.Tokens[i] = api.Token{Name: "gone"}
	}
	for i, r := range g.Rules {
		spoil(r.Body)
		g.Rules[i] = rule("gone", api.Gx{})
	}
}

func TestArgumentsStay(t *testing.T) {
	for _, x := range append(smalls(), star(cat(name("a"))), api.Gx{Op: 99, Subs: []api.Gx{{}}}) {
		y := sample.Roomy(x)
		Text(y)
		FitBody(y)
		if !sameBody(x, y) || !sample.RoomStays(y) {
			t.Fatalf("%v has changed to %v", x, y)
		}
		g := small()
		g.Rules = append(make([]api.Rule, 0, 9), rule("r", y), rule("u", y))
		g.Tokens = slices.Grow(g.Tokens, 5)
		was := copiedGram(g)
		Print(g)
		Fit(g)
		Same(g, was)
		if !Same(g, was) || !sample.RoomStays(y) {
			t.Fatalf("%v has changed to %v", was, g)
		}
		for _, behind := range g.Rules[2:9] {
			if behind.Name != "" {
				t.Fatalf("behind the rules stands %v", behind)
			}
		}
		for _, behind := range g.Tokens[4:9] {
			if behind.Name != "" {
				t.Fatalf("behind the tokens stands %v", behind)
			}
		}
	}
}

// What was told once may be written over: nothing that is told later, or beside it, changes.
func TestAnswersShareNothing(t *testing.T) {
	const s = `a (b "c" | %1 x:d* | )+ (a b)=y (a b)=y`
	want, _ := Body(s)
	was := copied(want)
	got, _ := Body(s)
	spoil(got)
	if again, _ := Body(s); !sameBody(again, was) || !sameBody(want, was) {
		t.Errorf("Body tells %v, then %v", was, again)
	}
	for i := range want.Subs {
		rest := copied(cat(want.Subs[i+1:]...))
		if spoil(want.Subs[i]); !sameBody(cat(want.Subs[i+1:]...), rest) {
			t.Errorf("part %d shares what a later one has", i)
		}
	}

	const lines = "grammar g\ntoken t a[b-c]\nskip t a[b-c]\nscan s yes; no\nskipscan s yes; no\nrule r a b\nrule r a b\n"
	first, _, _ := Parse(lines)
	before := copiedGram(first)
	second, _, _ := Parse(lines)
	spoilGram(second)
	if third, _, _ := Parse(lines); !Same(third, before) || !Same(first, before) {
		t.Errorf("Parse tells %v, then %v", before, third)
	}
	for i := range first.Tokens {
		rest := copiedGram(api.Gram{Tokens: first.Tokens[i+1:], Rules: first.Rules})
		spoilGram(api.Gram{Tokens: first.Tokens[i : i+1]})
		if !Same(api.Gram{Tokens: first.Tokens[i+1:], Rules: first.Rules}, rest) {
			t.Errorf("token %d shares what another one has", i)
		}
	}
	spoil(first.Rules[0].Body)
	if !sameBody(first.Rules[1].Body, cat(name("a"), name("b"))) {
		t.Error("two rules share what they have")
	}
}

// hostile is bodies of wrong kinds and parts, lists that hold themselves, far too many parts, far too deep: no promise but that the calls end.
func hostile() []api.Gx {
	a := name("a")
	var all []api.Gx
	for _, op := range []int{-1 << 63, -1, 0, 1, 2, 3, 4, 5, 6, 7, 8, 9, 10, 11, 12, 1<<63 - 1} {
		x := api.Gx{Op: op, Name: "n"}
		all = append(all, x, api.Gx{Op: op}, api.Gx{Op: op, Num: 1 << 62})
		for n := range 4 {
			x.Subs = slices.Repeat([]api.Gx{a}, n)
			all = append(all, x)
			x.Subs = make([]api.Gx, n)
			all = append(all, x)
		}
		for _, s := range []string{"", "n"} {
			loop := make([]api.Gx, 2)
			loop[0] = api.Gx{Op: op, Name: s, Subs: loop}
			loop[1] = api.Gx{Op: op, Name: s, Subs: loop[:1]}
			all = append(all, loop...)
			deep, wide := a, a
			for range 1 << 16 {
				deep = api.Gx{Op: op, Name: s, Subs: []api.Gx{deep}}
			}
			for range 60 {
				wide = api.Gx{Op: op, Name: s, Subs: []api.Gx{wide, wide}}
			}
			all = append(all, deep, wide)
		}
	}
	return all
}

func TestUnfitEnds(t *testing.T) {
	for _, x := range hostile() {
		for _, y := range []api.Gx{x, cat(name("a"), x), star(x)} {
			FitBody(y)
			Text(y)
			g := small()
			g.Rules[1].Body = y
			Fit(g)
			Print(g)
		}
	}
	for n := range 3 {
		g := api.Gram{Name: "g", Rules: make([]api.Rule, n), Tokens: make([]api.Token, n)}
		Print(g)
		Fit(g)
		Same(g, small())
	}
	rows := make([]api.Rex, 2)
	rows[0] = api.Rex{Op: api.RxCat, Subs: rows}
	rows[1] = rows[0]
	g := small()
	g.Tokens[0].Rex = rows[0]
	Fit(g)
	Print(g)
	g.Tokens[2].Rex = rows[0]
	Fit(g)
	Print(g)
}

// A fault is what a reader gives up with; anything else that is thrown is a mistake, and not hidden.
func TestCaught(t *testing.T) {
	if f := caught(nil); f != (api.Fault{}) {
		t.Errorf("of nothing: %v", f)
	}
	if f := caught(fault(api.ErrForm, 3)); f != fault(api.ErrForm, 3) {
		t.Errorf("of a fault: %v", f)
	}
	defer func() {
		if recover() != "mistake" {
			t.Error("something else does not go on")
		}
	}()
	caught("mistake")
}

func TestNameTold(t *testing.T) {
	for _, c := range []struct {
		s    string
		want bool
	}{
		{"", false},
		{"a", true},
		{"z", true},
		{"A", true},
		{"Z", true},
		{"_", true},
		{"0", false},
		{"9", false},
		{"9a", false},
		{"a0", true},
		{"_9", true},
		{"aZ_09", true},
		{" ", false},
		{" a", false},
		{"a ", false},
		{"a b", false},
		{"a-b", false},
		{"é", false},
		{"aé", false},
		{"a\x00", false},
		{strings.Repeat("a", 32), true},
		{strings.Repeat("a", 33), false},
		{strings.Repeat("_", 31) + "9", true},
		{strings.Repeat("a", 31) + "-", false},
		{strings.Repeat("a", 8000), false},
	} {
		if Name(c.s) != c.want {
			t.Errorf("Name(%q) is not %v", c.s, c.want)
		}
	}
}

func TestNameOfEveryByte(t *testing.T) {
	const letters = "abcdefghijklmnopqrstuvwxyzABCDEFGHIJKLMNOPQRSTUVWXYZ_"
	for n := range 256 {
		c := string([]byte{byte(n)})
		first, later := strings.Contains(letters, c), strings.Contains(letters+"0123456789", c)
		if Name(c) != first || Name(c+"a") != first || Name("a"+c) != later || Name("a"+c+"a") != later {
			t.Errorf("byte %d", n)
		}
	}
}

func TestSameTold(t *testing.T) {
	if !Same(small(), copiedGram(small())) || !Same(api.Gram{}, api.Gram{}) {
		t.Error("a grammar is not the same as its copy")
	}
	empty := api.Gram{Tokens: []api.Token{}, Rules: []api.Rule{}}
	if !Same(api.Gram{}, empty) || !Same(empty, api.Gram{}) {
		t.Error("an empty list is not none")
	}
	for i, change := range []func(*api.Gram){
		func(g *api.Gram) { g.Name = "h" },
		func(g *api.Gram) { g.Name = "" },
		func(g *api.Gram) { g.Tokens = nil },
		func(g *api.Gram) { g.Tokens = g.Tokens[:3] },
		func(g *api.Gram) { g.Tokens = append(g.Tokens, token("t", "[a-z]+")) },
		func(g *api.Gram) { slices.Reverse(g.Tokens) },
		func(g *api.Gram) { g.Tokens[0].Name = "T" },
		func(g *api.Gram) { g.Tokens[0].Skip = true },
		func(g *api.Gram) { g.Tokens[3].Skip = false },
		func(g *api.Gram) { g.Tokens[0].Rex.Op = api.RxStar },
		func(g *api.Gram) { g.Tokens[0].Rex.Subs[0].Set[0].Hi = 'y' },
		func(g *api.Gram) { g.Tokens[0].Prog = g.Tokens[2].Prog },
		func(g *api.Gram) { g.Tokens[2].Prog[1].Op = api.InNo },
		func(g *api.Gram) { g.Tokens[2].Prog[0].Y = 98 },
		func(g *api.Gram) { g.Tokens[2].Prog = g.Tokens[2].Prog[:1] },
		func(g *api.Gram) { g.Tokens[2].Rex.Op = api.RxEmpty },
		func(g *api.Gram) { g.Rules = nil },
		func(g *api.Gram) { g.Rules = g.Rules[:1] },
		func(g *api.Gram) { slices.Reverse(g.Rules) },
		func(g *api.Gram) { g.Rules[1].Name = "r" },
		func(g *api.Gram) { g.Rules[0].Body.Op = api.GxAlt },
		func(g *api.Gram) { g.Rules[0].Body.Name = "x" },
		func(g *api.Gram) { g.Rules[0].Body.Num = 1 },
		func(g *api.Gram) { g.Rules[0].Body.Subs = g.Rules[0].Body.Subs[:1] },
		func(g *api.Gram) { g.Rules[0].Body.Subs[1].Subs[0].Name = "v" },
		func(g *api.Gram) { g.Rules[1].Body.Subs[1].Subs = []api.Gx{{}} },
	} {
		g := copiedGram(small())
		change(&g)
		if Same(g, small()) || Same(small(), g) {
			t.Errorf("change %d is not seen", i)
		}
		if !Same(g, copiedGram(g)) {
			t.Errorf("change %d: not the same as its copy", i)
		}
	}
}

func TestSameOfSmalls(t *testing.T) {
	all := smalls()[:600]
	for i, x := range all {
		for j, y := range all {
			// Some are met twice: two that are written alike are one.
			alike := i == j || Text(x) == Text(y)
			if Same(api.Gram{Rules: []api.Rule{rule("r", x)}}, api.Gram{Rules: []api.Rule{rule("r", y)}}) != alike {
				t.Fatalf("Same(%v, %v) is %v", x, y, !alike)
			}
		}
	}
}

func TestSameOfDeep(t *testing.T) {
	a, b, c := name("a"), name("a"), name("b")
	for range 1<<16 - 1 {
		a, b, c = star(a), star(b), star(c)
	}
	g := func(x api.Gx) api.Gram { return api.Gram{Rules: []api.Rule{rule("r", x)}} }
	if !Same(g(a), g(b)) || Same(g(a), g(c)) {
		t.Error("Same does not go down to the leaf")
	}
}
