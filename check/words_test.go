package check

import (
	"reflect"
	"slices"
	"strings"
	"testing"

	"bramble/api"
	"bramble/gram"
	"bramble/rex"
	"bramble/sample"
	"bramble/vm"
)

// A form is a row of names that a part can stand for; a literal stands in it as itself, in bytes 34.
type form []string

// forms is all rows that a part can stand for, what is repeated at most twice.
func forms(x api.Gx) []form {
	switch x.Op {
	case api.GxName:
		return []form{{x.Name}}
	case api.GxLit:
		return []form{{`"` + x.Name + `"`}}
	case api.GxCat:
		rows := []form{{}}
		for _, sub := range x.Subs {
			rows = behind(rows, forms(sub))
		}
		return rows
	}
	var rows []form
	for _, sub := range x.Subs {
		rows = append(rows, forms(sub)...)
	}
	switch x.Op {
	case api.GxStar:
		return append(behind(rows, rows), append(rows, form{})...)
	case api.GxPlus:
		return append(behind(rows, rows), rows...)
	case api.GxOpt:
		return append(rows, form{})
	}
	return rows
}

// behind is each row of one list with each one of another list behind it.
func behind(l, m []form) []form {
	var all []form
	for _, a := range l {
		for _, b := range m {
			all = append(all, slices.Concat(a, b))
		}
	}
	return all
}

// byWords is what is told of a grammar by the chapter's words alone: its rules are found by going through them, bodies are the rows they can stand for.
type byWords struct {
	api.Gram
	rows [][]form
}

func wordsOf(g api.Gram) byWords {
	w := byWords{Gram: g}
	for _, r := range g.Rules {
		w.rows = append(w.rows, forms(r.Body))
	}
	return w
}

func (w byWords) rule(name string) int {
	return slices.IndexFunc(w.Rules, func(r api.Rule) bool { return r.Name == name })
}

// nothing tells whether all of a row are rules that can be empty, where rules stand within one another at most so often.
func (w byWords) nothing(row form, deep int) bool {
	for _, name := range row {
		if rule := w.rule(name); deep == 0 || rule < 0 || !w.empty(w.rows[rule], deep-1) {
			return false
		}
	}
	return true
}

func (w byWords) empty(rows []form, deep int) bool {
	return slices.ContainsFunc(rows, func(row form) bool { return w.nothing(row, deep) })
}

// canBeEmpty: a way to nothing that has a rule within itself has a shorter one, so that no more need to be looked at than there are rules.
func (w byWords) canBeEmpty(x api.Gx) bool { return w.empty(forms(x), len(w.Rules)) }

func (w byWords) canBeAlone(rows []form, name string) bool {
	return slices.ContainsFunc(rows, func(row form) bool {
		for i := range row {
			if row[i] == name && w.nothing(row[:i], len(w.Rules)) && w.nothing(row[i+1:], len(w.Rules)) {
				return true
			}
		}
		return false
	})
}

func (w byWords) alone() [][]int {
	all := make([][]int, len(w.Rules))
	for i := range w.Rules {
		for j, r := range w.Rules {
			if w.canBeAlone(w.rows[i], r.Name) {
				all[i] = append(all[i], j)
			}
		}
	}
	return all
}

// comesBack tells whether there is a walk of at most so many steps from one rule to another one.
func comesBack(alone [][]int, from, to, steps int) bool {
	return steps > 0 && slices.ContainsFunc(alone[from], func(at int) bool {
		return at == to || comesBack(alone, at, to, steps-1)
	})
}

// repeats tells whether something that can be empty is repeated within a part.
func (w byWords) repeats(x api.Gx) bool {
	if x.Op == api.GxStar || x.Op == api.GxPlus {
		if w.canBeEmpty(x.Subs[0]) {
			return true
		}
	}
	return slices.ContainsFunc(x.Subs, w.repeats)
}

// names is the names of tokens, then of rules.
func (w byWords) names() []string {
	var all []string
	for _, t := range w.Tokens {
		all = append(all, t.Name)
	}
	for _, r := range w.Rules {
		all = append(all, r.Name)
	}
	return all
}

// firstAt is the first place of which something is told; -1, if there is none.
func firstAt(from, to int, wrong func(int) bool) int {
	for place := from; place < to; place++ {
		if wrong(place) {
			return place
		}
	}
	return -1
}

func (w byWords) check() (api.Errno, int) {
	names, tokens := w.names(), len(w.Tokens)
	used := func(place int) []string { return slices.Concat(w.rows[place-tokens]...) }
	var alone [][]int
	for _, c := range []struct {
		err   api.Errno
		from  int
		to    int
		wrong func(int) bool
	}{
		{api.ErrTwice, 0, len(names), func(p int) bool { return slices.Contains(names[:p], names[p]) }},
		{api.ErrName, tokens, tokens + 1, func(p int) bool { return names[p][0] == '_' }},
		{api.ErrEmpty, 0, tokens, func(p int) bool {
			_, can := rex.Longest(w.Tokens[p].Rex, "")
			return can && w.Tokens[p].Prog == nil
		}},
		{api.ErrNone, tokens, len(names), func(p int) bool {
			return slices.ContainsFunc(used(p), func(s string) bool { return s[0] != '"' && !slices.Contains(names, s) })
		}},
		{api.ErrKind, tokens, len(names), func(p int) bool {
			return slices.ContainsFunc(w.Tokens, func(t api.Token) bool { return t.Skip && slices.Contains(used(p), t.Name) })
		}},
		{api.ErrRound, tokens, len(names), func(p int) bool { return w.repeats(w.Rules[p-tokens].Body) }},
		{api.ErrRound, tokens, len(names), func(p int) bool {
			if alone == nil {
				alone = w.alone()
			}
			return comesBack(alone, p-tokens, p-tokens, len(w.Rules))
		}},
	} {
		if place := firstAt(c.from, c.to, c.wrong); place >= 0 {
			return c.err, place
		}
	}
	return api.OK, 0
}

// agree fails if something is told of a grammar that is not so by the chapter's words.
func agree(t *testing.T, g api.Gram) api.Errno {
	t.Helper()
	w := wordsOf(g)
	wantErr, wantPlace := w.check()
	err, place := Check(g)
	if err != wantErr || place != wantPlace {
		t.Fatalf("%s: %v at %d, not %v at %d", gram.Print(g), err, place, wantErr, wantPlace)
	}
	var empty []bool
	var alone [][]int
	if err == api.OK || err == api.ErrKind || err == api.ErrRound {
		for _, r := range g.Rules {
			empty = append(empty, w.canBeEmpty(r.Body))
		}
		alone = w.alone()
	}
	if got := Empty(g); !reflect.DeepEqual(got, empty) {
		t.Fatalf("%s: Empty tells %v, not %v", gram.Print(g), got, empty)
	}
	if got := Alone(g); !reflect.DeepEqual(got, alone) {
		t.Fatalf("%s: Alone tells %v, not %v", gram.Print(g), got, alone)
	}
	return err
}

// Every row of a few signs, as the body of a rule, beside rules that can be empty, can't be, and lead back.
func TestByWordsOfAllRows(t *testing.T) {
	found := map[api.Errno]int{}
	for _, s := range sample.Texts([]string{"a ", "b ", `"x" `, "(", ") ", "* ", "+ ", "? ", "| "}, 5) {
		x, f := gram.Body(s)
		if f.Err != api.OK {
			continue
		}
		for _, other := range []string{`"y"`, `"y" | `, `a "y"?`} {
			y := body(t, other)
			found[agree(t, api.Gram{Name: "g", Rules: []api.Rule{{Name: "a", Body: x}, {Name: "b", Body: y}}})]++
		}
	}
	if found[api.OK] < 1000 || found[api.ErrRound] < 1000 {
		t.Errorf("too few of a kind are met: %v", found)
	}
}

// Every choice of three bodies out of some.
func TestByWordsOfThreeRules(t *testing.T) {
	var bodies []api.Gx
	for _, s := range []string{``, `"x"`, `a`, `b`, `c`, `a?`, `b*`, `c+`, `a b`, `b c`, `c a "x"`, `a | "x"`, `b c?`, `x:c=y | a`, `%1 (a | ) b`, `(b "x")+ c`, `c? a?`} {
		bodies = append(bodies, body(t, s))
	}
	for _, x := range bodies {
		for _, y := range bodies {
			for _, z := range bodies {
				agree(t, api.Gram{Name: "g", Rules: []api.Rule{{Name: "a", Body: x}, {Name: "b", Body: y}, {Name: "c", Body: z}}})
			}
		}
	}
}

// drawnBody is a body that is drawn, of few kinds within one another; a name that nothing has, and one of a token between others, are rare.
func drawnBody(seed *sample.Seed, depth int) api.Gx {
	return sample.Part(seed, depth, func() api.Gx {
		switch seed.Below(40) {
		case 0:
			return named("n")
		case 1:
			return named("s")
		}
		leaves := []api.Gx{named("a"), named("b"), named("c"), named("_d"), named("t"), {Op: api.GxLit, Name: "a"}, {Op: api.GxCat}, {Op: api.GxCat}}
		return leaves[seed.Below(len(leaves))]
	})
}

// drawnToken is a token of a name, by an expression that can be empty (rarely), by one that can't, or by a program.
func drawnToken(seed *sample.Seed, name string) api.Token {
	t := api.Token{Name: name, Skip: name == "s"}
	if seed.Below(3) == 0 {
		t.Prog, _ = vm.Parse([]string{"yes", "char 97 97 2; yes; no"}[seed.Below(2)])
		return t
	}
	all := []string{"x", "[a-z]+", "x?y", "é|x", `\s\s*`}
	if seed.Below(16) == 0 {
		all = []string{"", "x*", "x?y*", "x|"}
	}
	t.Rex, _ = rex.Parse(all[seed.Below(len(all))])
	return t
}

// drawnGram is a fit grammar that is drawn: its names are nearly always those of which each is once.
func drawnGram(seed *sample.Seed) api.Gram {
	pick := func(usual string) string {
		if seed.Below(50) == 0 {
			return []string{"a", "s", "t", "_d", "_e"}[seed.Below(5)]
		}
		return usual
	}
	g := api.Gram{Name: "drawn"}
	for _, s := range []string{"s", "t"} {
		g.Tokens = append(g.Tokens, drawnToken(seed, pick(s)))
	}
	for _, s := range []string{"a", "b", "c", "_d"} {
		g.Rules = append(g.Rules, api.Rule{Name: pick(s), Body: drawnBody(seed, seed.Below(3))})
	}
	return g
}

func TestByWordsOfDrawn(t *testing.T) {
	seed := sample.Seed(8)
	found := map[api.Errno]int{}
	for range 20000 {
		found[agree(t, drawnGram(&seed))]++
	}
	for _, err := range []api.Errno{api.OK, api.ErrTwice, api.ErrName, api.ErrEmpty, api.ErrNone, api.ErrKind, api.ErrRound} {
		if found[err] < 50 {
			t.Errorf("%v is met %d times", err, found[err])
		}
	}
}

// P8.4: a rule more at the end, right itself, whose name is new and that no body uses, changes nothing of what is said of the others.
func TestRuleMoreChangesNothing(t *testing.T) {
	seed := sample.Seed(84)
	added := 0
	for range 3000 {
		g := drawnGram(&seed)
		names := wordsOf(g).names()
		err, place := Check(g)
		empty, alone := Empty(g), Alone(g)
		for _, r := range rulesMore(t) {
			strange := func(name string) bool { return name != r.Name && !slices.Contains(names, name) }
			if slices.ContainsFunc(Uses(r.Body), strange) {
				continue
			}
			added++
			h := g
			h.Rules = append(slices.Clone(g.Rules), r)
			if e, p := Check(h); e != err || p != place {
				t.Fatalf("%s: %v at %d, not %v at %d", gram.Print(h), e, p, err, place)
			}
			if n := len(g.Rules); empty != nil && (!slices.Equal(Empty(h)[:n], empty) || !reflect.DeepEqual(Alone(h)[:n], alone)) {
				t.Fatalf("%s: Empty tells %v, Alone %v, not %v and %v", gram.Print(h), Empty(h), Alone(h), empty, alone)
			}
		}
	}
	if added < 20000 {
		t.Errorf("only %d rules were right", added)
	}
}

// rulesMore is rules that are right, if the names that they use are there.
func rulesMore(t *testing.T) []api.Rule {
	var all []api.Rule
	for _, s := range []string{`new `, `new "x"`, `_new a`, `new t`, `new a b c _d`, `_f a | b | c?`, `new new "x"`, `new "x" (new | t)* a?`, `new _:t=a "b"+ | %2 x:b`} {
		name, x, _ := strings.Cut(s, " ")
		all = append(all, api.Rule{Name: name, Body: body(t, x)})
	}
	return all
}

// P8.5: other expressions, or programs, change nothing of what Check tells, but for ErrEmpty.
func TestExpressionsChangeNothing(t *testing.T) {
	seed := sample.Seed(85)
	sound, _ := rex.Parse("x")
	for range 3000 {
		g := drawnGram(&seed)
		// What is told of the grammar as if no token could be empty.
		plain := g
		plain.Tokens = slices.Clone(g.Tokens)
		for i := range plain.Tokens {
			plain.Tokens[i].Rex, plain.Tokens[i].Prog = sound, nil
		}
		err, place := Check(plain)
		empty, alone := Empty(plain), Alone(plain)
		for range 10 {
			h := g
			h.Tokens = slices.Clone(g.Tokens)
			for i, t := range h.Tokens {
				h.Tokens[i] = drawnToken(&seed, t.Name)
				h.Tokens[i].Skip = t.Skip
			}
			wantErr, wantPlace, wantEmpty, wantAlone := err, place, empty, alone
			bad := slices.IndexFunc(h.Tokens, func(t api.Token) bool { return rex.Fit(t.Rex) && rex.Empty(t.Rex) })
			if bad >= 0 && err != api.ErrTwice && err != api.ErrName {
				wantErr, wantPlace, wantEmpty, wantAlone = api.ErrEmpty, bad, nil, nil
			}
			if e, p := Check(h); e != wantErr || p != wantPlace {
				t.Fatalf("%s: %v at %d, not %v at %d", gram.Print(h), e, p, wantErr, wantPlace)
			}
			if !reflect.DeepEqual(Empty(h), wantEmpty) || !reflect.DeepEqual(Alone(h), wantAlone) {
				t.Fatalf("%s: Empty tells %v, Alone %v", gram.Print(h), Empty(h), Alone(h))
			}
		}
	}
}
