package flat

import (
	"fmt"
	"maps"
	"slices"
	"strings"
	"testing"

	"bramble/api"
	"bramble/check"
	"bramble/gram"
	"bramble/sample"
)

// An alternative by the chapter's words: parts that stand one behind the other, and a Prec.
type choice struct {
	parts []api.Gx
	prec  int
}

// choices is the alternatives of a part.
func choices(x api.Gx) []choice {
	var all []choice
	switch x.Op {
	case api.GxAlt:
		for _, sub := range x.Subs {
			all = append(all, choices(sub)...)
		}
	case api.GxPrec:
		all = choices(x.Subs[0])
		for i := range all {
			all[i].prec += x.Num
		}
	case api.GxCat:
		all = []choice{{parts: x.Subs}}
	default:
		all = []choice{{parts: []api.Gx{x}}}
	}
	return all
}

// byWords is what Show is to tell of a grammar, made as texts: what has a name of its own is a list of names and parts, which grows as it is gone through.
func byWords(g api.Gram) string {
	type named struct {
		name string
		part api.Gx
	}
	var all []named
	for _, r := range g.Rules {
		all = append(all, named{r.Name, r.Body})
	}
	item := func(x api.Gx) string {
		field, alias := "", ""
		for x.Op == api.GxField || x.Op == api.GxAlias {
			if x.Op == api.GxField && field == "" {
				field = x.Name + ":"
			}
			if x.Op == api.GxAlias && alias == "" {
				alias = "=" + x.Name
			}
			x = x.Subs[0]
		}
		if x.Op == api.GxName || x.Op == api.GxLit {
			return field + gram.Text(x) + alias
		}
		all = append(all, named{fmt.Sprint("#", len(all)-len(g.Rules)+1), x})
		return field + all[len(all)-1].name + alias
	}
	out := ""
	line := func(left string, prec int, items ...string) {
		out += strings.Join(append([]string{left, "->"}, items...), " ")
		if prec != 0 {
			out += fmt.Sprintf(" %%%d", prec)
		}
		out += "\n"
	}
	for i := 0; i < len(all); i++ {
		it, x := all[i].name, all[i].part
		if i >= len(g.Rules) {
			switch x.Op {
			case api.GxStar:
				line(it, 0)
				line(it, 0, it, item(x.Subs[0]))
				continue
			case api.GxPlus:
				sub := item(x.Subs[0])
				line(it, 0, sub)
				line(it, 0, it, sub)
				continue
			case api.GxOpt:
				line(it, 0)
				x = x.Subs[0]
			}
		}
		for _, c := range choices(x) {
			var items []string
			for _, part := range c.parts {
				items = append(items, item(part))
			}
			line(it, c.prec, items...)
		}
	}
	return out
}

// A word is a row of terminals, a letter each, with what the way to it counts.
type word struct {
	row  string
	prec int
}

type words map[word]int

// most is how many terminals the rows have that are held against each other.
const most = 3

// behind is each word of one set with each of another one behind it, as far as the rows are not too long.
func behind(l, m words) words {
	all := words{}
	for a := range l {
		for b := range m {
			if len(a.row)+len(b.row) <= most {
				all[word{a.row + b.row, a.prec + b.prec}] = 1
			}
		}
	}
	return all
}

// wordsOf is the words that a part stands for, by those that are known of rules.
func wordsOf(x api.Gx, known map[string]words) words {
	switch x.Op {
	case api.GxName:
		if known[x.Name] == nil {
			return words{word{x.Name, 0}: 1}
		}
		return known[x.Name]
	case api.GxLit:
		return words{word{x.Name, 0}: 1}
	case api.GxCat:
		all := words{word{}: 1}
		for _, sub := range x.Subs {
			all = behind(all, wordsOf(sub, known))
		}
		return all
	}
	all := words{}
	for _, sub := range x.Subs {
		for w := range wordsOf(sub, known) {
			all[word{w.row, w.prec + x.Num}] = 1
		}
	}
	once := all
	if x.Op == api.GxStar || x.Op == api.GxPlus {
		for range most {
			next := behind(all, once)
			maps.Copy(next, once)
			all = next
		}
	}
	if x.Op == api.GxStar || x.Op == api.GxOpt {
		all = maps.Clone(all)
		all[word{}] = 1
	}
	return all
}

// ofRules is the words of each rule, by rounds till nothing is new.
func ofRules(g api.Gram) map[string]words {
	known := map[string]words{}
	for _, r := range g.Rules {
		known[r.Name] = words{}
	}
	for grown := true; grown; {
		grown = false
		for _, r := range g.Rules {
			was := len(known[r.Name])
			maps.Copy(known[r.Name], wordsOf(r.Body, known))
			grown = grown || len(known[r.Name]) > was
		}
	}
	return known
}

// ofSymbols is the words of each symbol of a plain grammar, by rounds till nothing is new.
func ofSymbols(f api.Flat) []words {
	var known []words
	for _, s := range f.Terms {
		known = append(known, words{word{strings.Trim(s, `"`), 0}: 1})
	}
	for range f.Nons {
		known = append(known, words{})
	}
	for grown := true; grown; {
		grown = false
		for _, p := range f.Prods {
			all := words{word{"", p.Prec}: 1}
			for _, i := range p.Right {
				all = behind(all, known[i.Sym])
			}
			was := len(known[p.Left])
			maps.Copy(known[p.Left], all)
			grown = grown || len(known[p.Left]) > was
		}
	}
	return known
}

// holdWords fails where a rule stands for other rows than what is made of it, or they count otherwise.
func holdWords(t *testing.T, g api.Gram, f api.Flat) {
	t.Helper()
	want, got := ofRules(g), ofSymbols(f)
	for i, r := range g.Rules {
		if !maps.Equal(want[r.Name], got[len(f.Terms)+i]) {
			t.Fatalf("%s: %s stands for %v, not %v", gram.Print(g), r.Name, got[len(f.Terms)+i], want[r.Name])
		}
	}
}

// holdWhole is P9.6: what is made is fit, has a production of each symbol of Nons, rules' names first, then helpers, numbered.
func holdWhole(t *testing.T, g api.Gram, f api.Flat) {
	t.Helper()
	if !Fit(f) {
		t.Fatalf("%s: what is made is not fit: %v", gram.Print(g), f)
	}
	at := 0
	for i, non := range f.Nons {
		want := fmt.Sprint("#", i-len(g.Rules)+1)
		if i < len(g.Rules) {
			want = g.Rules[i].Name
		}
		places := Of(f, len(f.Terms)+i)
		if non != want || len(places) == 0 || places[0] != at {
			t.Fatalf("%s: %s, not %s, has the productions %v", gram.Print(g), non, want, places)
		}
		at += len(places)
	}
	if len(f.Nons) < len(g.Rules) || at != len(f.Prods) {
		t.Fatalf("%s: %q with %d productions", gram.Print(g), f.Nons, len(f.Prods))
	}
}

// agree fails if something else is made of a grammar than by the chapter's words; it tells whether something is made.
func agree(t *testing.T, g api.Gram) bool {
	t.Helper()
	wrong, _ := check.Check(g)
	f, err := Make(g)
	if wrong != api.OK {
		if err != api.ErrState || !Same(f, api.Flat{}) {
			t.Fatalf("%s: %v, %v, though Check tells %v", gram.Print(g), f, err, wrong)
		}
		return false
	}
	if err != api.OK {
		t.Fatalf("%s: %v", gram.Print(g), err)
	}
	if got, want := Show(f), byWords(g); got != want {
		t.Fatalf("%s: %s, not %s", gram.Print(g), got, want)
	}
	var terms []string
	for _, s := range Literals(g) {
		terms = append(terms, gram.Text(lit(s)))
	}
	for _, token := range g.Tokens {
		terms = append(terms, token.Name)
	}
	if !slices.Equal(f.Terms, terms) {
		t.Fatalf("%s: %q, not %q", gram.Print(g), f.Terms, terms)
	}
	holdWhole(t, g, f)
	return true
}

// tokenT is a token t.
func tokenT() api.Token {
	return api.Token{Name: "t", Rex: api.Rex{Op: api.RxSet, Set: []api.Runes{{Lo: 't', Hi: 't'}}}}
}

// Every row of a few signs, as the body of a rule, beside rules that can be empty, and can't be.
func TestByWordsOfAllRows(t *testing.T) {
	made := 0
	for _, s := range sample.Texts([]string{"a ", "t ", `"x" `, "(", ") ", "* ", "+ ", "? ", "| ", "%2 ", "x:", "=y "}, 5) {
		x, f := gram.Body(s)
		if f.Err != api.OK {
			continue
		}
		g := api.Gram{Name: "g", Tokens: []api.Token{tokenT()}, Rules: []api.Rule{{Name: "w", Body: x}, {Name: "a", Body: cat(lit("y"), x)}}}
		if !agree(t, g) {
			continue
		}
		made++
		if made%5 == 0 {
			f, _ := Make(g)
			holdWords(t, g, f)
		}
	}
	if made < 5000 {
		t.Errorf("only %d are made", made)
	}
}

// kinds is parts of each kind.
func kinds() []api.Gx {
	return []api.Gx{
		name("t"), name("b"), lit("x"), cat(), cat(name("b"), lit("y")), alt(name("t"), cat(), lit("z")),
		over(api.GxStar, name("b")), over(api.GxPlus, lit("x")), over(api.GxOpt, name("t")),
		over(api.GxField, lit("y")), over(api.GxAlias, name("b")),
		{Op: api.GxPrec, Num: 3, Subs: []api.Gx{name("b")}}, {Op: api.GxPrec, Num: -4, Subs: []api.Gx{cat(name("b"), name("b"))}},
	}
}

// around is parts of each kind with one or two parts in them.
func around(x, y api.Gx) []api.Gx {
	all := []api.Gx{cat(x, y), cat(y, lit("w"), x), alt(x, y), alt(y, cat(), x)}
	for op := api.GxStar; op < api.GxPrec; op++ {
		z := over(op, x)
		z.Name = strings.ToUpper(z.Name)
		all = append(all, z)
	}
	return append(all, api.Gx{Op: api.GxPrec, Num: 5, Subs: []api.Gx{x}}, api.Gx{Op: api.GxPrec, Num: -3, Subs: []api.Gx{y}})
}

// Parts of each kind within parts of each kind, within parts of each kind.
func TestByWordsOfKindsWithinOneAnother(t *testing.T) {
	made := 0
	for _, x := range kinds() {
		for _, y := range kinds() {
			for _, z := range around(x, y) {
				for _, whole := range around(z, lit("v")) {
					g := bodies(whole, lit("x"), name("b"))
					g.Tokens = []api.Token{tokenT()}
					g.Rules[1].Name = "b"
					if agree(t, g) {
						made++
					}
				}
			}
		}
	}
	if made < 10000 {
		t.Errorf("only %d are made", made)
	}
}

func TestByWordsOfDrawn(t *testing.T) {
	seed := sample.Seed(9)
	leaf := func() api.Gx {
		leaves := []api.Gx{name("a"), name("b"), name("c"), name("t"), lit("x"), lit("y"), lit("z"), cat()}
		return leaves[seed.Below(len(leaves))]
	}
	made, wrong := 0, 0
	for range 20000 {
		g := api.Gram{Name: "drawn", Tokens: []api.Token{tokenT()}}
		for _, s := range []string{"a", "b", "c"} {
			g.Rules = append(g.Rules, api.Rule{Name: s, Body: sample.Part(&seed, 1+seed.Below(3), leaf)})
		}
		if !agree(t, g) {
			wrong++
			continue
		}
		made++
		if made%20 == 0 {
			f, _ := Make(g)
			holdWords(t, g, f)
		}
	}
	if made < 2000 || wrong < 2000 {
		t.Errorf("%d are made, %d are wrong", made, wrong)
	}
}

// P9.7: without *, +, ?, and nothing in parentheses, there are no helpers, and as many productions as alternatives.
func TestWithoutHelpers(t *testing.T) {
	made := 0
	texts := sample.Texts([]string{"a ", `"(*" `, "| ", "%2 ", "x:", "=y "}, 6)
	for i, s := range texts {
		other := texts[i*7%len(texts)]
		x, f := gram.Body(s)
		y, e := gram.Body(other)
		if f.Err != api.OK || e.Err != api.OK {
			continue
		}
		made++
		g := api.Gram{Name: "g", Tokens: []api.Token{{Name: "a", Rex: tokenT().Rex}}, Rules: []api.Rule{{Name: "r", Body: x}, {Name: "s", Body: y}}}
		plain, err := Make(g)
		if err != api.OK || len(plain.Nons) != 2 || len(plain.Prods) != strings.Count(s+other, "|")+2 {
			t.Fatalf("%s: %v, %v", gram.Print(g), plain, err)
		}
	}
	if made < 100 {
		t.Errorf("only %d are made", made)
	}
}
