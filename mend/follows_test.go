package mend

import (
	"reflect"
	"slices"
	"testing"

	"bramble/api"
	"bramble/chart"
	"bramble/sample"
	"bramble/sets"
)

// mostByWords is up to which cost wholes are gone through one by one.
const mostByWords = 15

// holdWords fails where something else is told of a row than the chapter's words say of all wholes that cost little: up to the least cost, and, if they are not too many, some more. It tells what the best one costs; -1, if that is too much, or there are too many.
func holdWords(t *testing.T, f api.Flat, l []int) int {
	t.Helper()
	got, found := Best(f, l)
	for most := range mostByWords + 1 {
		all, ok := wholesByWords(f, l, most)
		if !ok {
			return -1
		}
		if len(all) == 0 {
			continue
		}
		want, ahead := bestByWords(f, all)
		if !ahead {
			t.Fatalf("%v, %v: none of %d wholes is ahead of all others", f, l, len(all))
		}
		if !found || !reflect.DeepEqual(got, want) {
			t.Fatalf("%v, %v: Best: %v, %v, not %v", f, l, got, found, want)
		}
		if more, ok := wholesByWords(f, l, most+4); ok {
			all = more
		}
		holdOrder(t, f, l, all)
		return most
	}
	if found && Cost(got) <= mostByWords {
		t.Fatalf("%v, %v: Best: %v, and there is none", f, l, got)
	}
	return -1
}

// holdOrder fails where wholes are not fit, or are in no order: by how many each is ahead of, it must be ahead of just those that are ahead of fewer.
func holdOrder(t *testing.T, f api.Flat, l []int, all []api.Mended) {
	t.Helper()
	best, _ := Best(f, l)
	for _, m := range all {
		if !Fit(f, l, m) || Cost(m) != 2*m.Rest+costByWords(m.Root) || !slices.Equal(Text(m), textByWords(m.Root)) {
			t.Fatalf("%v, %v: %v is not fit, or costs %d, or its text is %v", f, l, m, Cost(m), Text(m))
		}
		if Ahead(f, m, best) || Ahead(f, best, m) == reflect.DeepEqual(m, best) {
			t.Fatalf("%v, %v: %v is the best one, and not %v", f, l, best, m)
		}
	}
	all = all[:min(len(all), 25)]
	places := make([]int, len(all))
	for i, m := range all {
		for _, other := range all {
			if Ahead(f, m, other) {
				places[i]++
			}
		}
	}
	for i, m := range all {
		for k, other := range all {
			if Ahead(f, m, other) != (places[i] > places[k]) || i != k && places[i] == places[k] {
				t.Fatalf("%v, %v: Ahead is no order: %v, %v", f, l, m, other)
			}
		}
	}
}

// holdFollows fails where what the chapter says that follows (P18.3 to P18.6) does not hold of a row. It tells what the best whole costs; -1, if there is none.
func holdFollows(t *testing.T, f api.Flat, l []int) int {
	t.Helper()
	m, ok := Best(f, l)
	if useful := sets.Useful(f)[len(f.Terms)]; ok && !useful {
		t.Fatalf("%v, %v: %v, and the first of Nons is of no use", f, l, m)
	}
	way, accepted := chart.Best(f, l)
	if !ok {
		if accepted || !reflect.DeepEqual(m, api.Mended{}) {
			t.Fatalf("%v, %v: %v, and there is none", f, l, m)
		}
		return -1
	}
	cost := Cost(m)
	if !Fit(f, l, m) || cost < 0 || cost > api.MaxCost {
		t.Fatalf("%v, %v: %v is not fit, or costs %d", f, l, m, cost)
	}
	if (cost == 0) != accepted || chart.Accepts(f, l) != accepted || accepted && (!reflect.DeepEqual(m.Root, way) || m.Rest != 0) {
		t.Fatalf("%v, %v: %v costs %d; the chart's is %v, %v", f, l, m, cost, way, accepted)
	}
	if text := Text(m); !chart.Accepts(f, text) || apart(l, text) != cost {
		t.Fatalf("%v, %v: %v costs %d, its text is %v", f, l, m, cost, text)
	}
	return cost
}

// holdOneMore fails where a token more at a row's end (P18.5), or a number that is no terminal wherever it is put in (P18.6), costs more than 2 more.
func holdOneMore(t *testing.T, f api.Flat, l []int) {
	t.Helper()
	m, ok := Best(f, l)
	if !ok || len(l) == api.MaxTokens || Cost(m)+2 > api.MaxCost {
		return
	}
	for at := range len(l) + 1 {
		for term := -1; term <= len(f.Terms); term++ {
			if isTerminal := 0 <= term && term < len(f.Terms); isTerminal && at < len(l) {
				continue
			}
			more, ok := Best(f, slices.Insert(slices.Clone(l), at, term))
			if !ok || Cost(more) > Cost(m)+2 {
				t.Fatalf("%v, %v costs %d; with %d at %d: %v costs %d", f, l, Cost(m), term, at, ok, Cost(more))
			}
		}
	}
}

// seen is how often rows came of a grammar, how often they cost little, much, more than is gone through, and how often there was no whole.
type seen struct{ none, nothing, little, much, more int }

func (s *seen) put(cost int, byWords int) {
	switch {
	case cost < 0:
		s.none++
	case byWords < 0:
		s.more++
	case cost == 0:
		s.nothing++
	case cost < 7:
		s.little++
	default:
		s.much++
	}
}

// hold fails where not each of them was seen so often.
func (s seen) hold(t *testing.T, least int) {
	t.Helper()
	if s.none < least || s.nothing < least || s.little < least || s.much < least {
		t.Errorf("%+v", s)
	}
}

// precs is a plain grammar with Precs that are drawn.
func precs(seed *sample.Seed, f api.Flat) api.Flat {
	for i := range f.Prods {
		f.Prods[i].Prec = []int{0, 0, 0, 1, -1, 2, -99}[seed.Below(7)]
	}
	return f
}

// P18.1 to P18.6: every plain grammar of few productions that flat.Make could make, with every row of few tokens.
func TestEveryGrammar(t *testing.T) {
	seed := sample.Seed(181)
	for _, c := range []struct{ terms, nons, prods, items, row int }{{1, 1, 2, 3, 3}, {1, 2, 3, 2, 1}, {1, 2, 2, 2, 3}, {2, 1, 2, 2, 3}} {
		var numbers []int
		for term := -1; term < c.terms; term++ {
			numbers = append(numbers, term)
		}
		var s seen
		for f := range sample.Flats(sample.Symbols(c.terms, c.nons), c.prods, c.items) {
			if sample.Round(f) {
				continue
			}
			f = precs(&seed, f)
			for _, l := range sample.Rows(numbers, c.row) {
				s.put(holdFollows(t, f, l), holdWords(t, f, l))
				holdOneMore(t, f, l)
			}
		}
		s.hold(t, 40)
	}
}

// P18.1 to P18.6: drawn grammars, with rows of some of their tokens.
func TestDrawnGrammars(t *testing.T) {
	seed := sample.Seed(182)
	var s seen
	for range 1200 {
		f := precs(&seed, sample.Flat(&seed, sample.Symbols(2, 1+seed.Below(3)), 2+seed.Below(6), 3))
		if sample.Round(f) {
			continue
		}
		for range 4 {
			l := sample.Row(&seed, f, 5)
			if _, row, ok := sample.Mended(&seed, f, 2); ok && len(row) <= 6 && seed.Below(3) > 0 {
				l = row
			}
			s.put(holdFollows(t, f, l), holdWords(t, f, l))
			holdOneMore(t, f, l)
		}
	}
	s.hold(t, 40)
}

// P18.2: nothing that comes of the grammar is less apart from a row than the best whole costs, and one is as far: texts gone through one by one, by the chart alone.
func TestLeastApart(t *testing.T) {
	seed := sample.Seed(183)
	var s seen
	for range 600 {
		f := sample.Flat(&seed, sample.Symbols(2, 1+seed.Below(3)), 2+seed.Below(6), 3)
		if sample.Round(f) {
			continue
		}
		texts := sample.Rows([]int{0, 1}, 7)
		texts = slices.DeleteFunc(texts, func(l []int) bool { return !chart.Accepts(f, l) })
		for range 5 {
			l := sample.Row(&seed, f, 6)
			m, ok := Best(f, l)
			if !ok {
				s.put(-1, 0)
				continue
			}
			least := api.MaxCost
			for _, text := range texts {
				least = min(least, apart(l, text))
			}
			// A longer text lacks at least so many tokens.
			if cost := Cost(m); cost > least || cost < least && cost < 3*(8-len(l)) {
				t.Fatalf("%v, %v: %v costs %d, and not %d", f, l, m, cost, least)
			}
			s.put(Cost(m), 0)
		}
	}
	s.hold(t, 40)
}

// P18.3 to P18.6: of a row that is mended the best whole is not behind the one by which it was drawn.
func TestDrawnWholes(t *testing.T) {
	seed := sample.Seed(184)
	others, alike, long := 0, 0, 0
	for range 3000 {
		f := precs(&seed, sample.Flat(&seed, sample.Symbols(1+seed.Below(3), 1+seed.Below(4)), 3+seed.Below(9), 4))
		if sample.Round(f) {
			continue
		}
		m, l, ok := sample.Mended(&seed, f, 4)
		if !ok || len(l) > api.MaxTokens || Cost(m) > api.MaxCost {
			continue
		}
		if len(l) > 12 {
			long++
		}
		if !Fit(f, l, m) || holdFollows(t, f, l) < 0 {
			t.Fatalf("%v, %v: %v", f, l, m)
		}
		best, _ := Best(f, l)
		same := reflect.DeepEqual(m, best)
		if Ahead(f, m, best) || Ahead(f, best, m) == same || Cost(best) > Cost(m) {
			t.Fatalf("%v, %v: the best one is %v, and not %v", f, l, best, m)
		}
		if same {
			alike++
		} else {
			others++
		}
	}
	if others < 100 || alike < 100 || long < 50 {
		t.Errorf("%d that are not the best, %d that are, %d long rows", others, alike, long)
	}
}
