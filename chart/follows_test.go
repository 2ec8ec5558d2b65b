package chart

import (
	"math"
	"reflect"
	"testing"

	"bramble/api"
	"bramble/sample"
)

// holdWords fails where something else is told of a row than the chapter's words say: of all its ways, gone through one by one. It tells how many ways there are; -1, if they are too many.
func holdWords(t *testing.T, f api.Flat, l []int) int {
	t.Helper()
	all, ok := waysByWords(f, l)
	if !ok {
		return -1
	}
	ways := all[span{len(f.Terms), 0, len(l)}]
	for _, most := range []int{-1, 0, 1, 2, 3, len(ways) - 1, len(ways), len(ways) + 1, math.MaxInt} {
		if got := Count(f, l, most); got != max(0, min(most, len(ways))) {
			t.Fatalf("%v, %v: Count at most %d: %d, not %d", f, l, most, got, len(ways))
		}
	}
	want, found := bestByWords(f, ways)
	if found != (len(ways) > 0) {
		t.Fatalf("%v, %v: none of %d ways is ahead of all others", f, l, len(ways))
	}
	if got := Accepts(f, l); got != found {
		t.Fatalf("%v, %v: Accepts: %v", f, l, got)
	}
	if got, ok := Best(f, l); ok != found || !reflect.DeepEqual(got, want) {
		t.Fatalf("%v, %v: Best: %v, %v, not %v", f, l, got, ok, want)
	}
	for at, some := range all {
		holdOrder(t, f, l, at, some)
	}
	return len(ways)
}

// holdOrder fails where ways of one symbol, From and To are not fit, or are in no order: by how many each is ahead of, it must be ahead of just those that are ahead of fewer.
func holdOrder(t *testing.T, f api.Flat, l []int, at span, ways []api.Der) {
	t.Helper()
	places := make([]int, len(ways))
	for i, d := range ways {
		if !Fit(f, l, d) || Prec(f, d) != precByWords(f, d) || d.Sym != at.sym || d.From != at.from || d.To != at.to {
			t.Fatalf("%v, %v: %v is not fit, or counts %d", f, l, d, Prec(f, d))
		}
		if len(ways) > 40 {
			continue
		}
		for _, other := range ways {
			if Ahead(f, d, other) {
				places[i]++
			}
		}
	}
	if len(ways) > 40 {
		return
	}
	for i, d := range ways {
		for k, other := range ways {
			if Ahead(f, d, other) != (places[i] > places[k]) || i != k && places[i] == places[k] {
				t.Fatalf("%v, %v: Ahead is no order: %v, %v", f, l, d, other)
			}
		}
	}
}

// seen is how often there was no way, one, or more of them.
type seen struct{ none, one, more int }

func (s *seen) put(ways int) {
	switch {
	case ways < 0:
	case ways == 0:
		s.none++
	case ways == 1:
		s.one++
	default:
		s.more++
	}
}

// P15.2 to P15.6: every plain grammar of few productions that flat.Make could make, with every row of few tokens.
func TestEveryGrammar(t *testing.T) {
	seed := sample.Seed(153)
	for _, c := range []struct{ terms, nons, prods, items, row int }{{1, 1, 3, 3, 4}, {1, 2, 3, 2, 2}, {1, 2, 3, 2, 3}, {2, 1, 3, 2, 3}} {
		var numbers []int
		for term := -1; term <= c.terms; term++ {
			numbers = append(numbers, term)
		}
		if c.row > 2 {
			numbers = numbers[1 : c.terms+1]
		}
		var s seen
		for f := range sample.Flats(sample.Symbols(c.terms, c.nons), c.prods, c.items) {
			if sample.Round(f) {
				continue
			}
			for i := range f.Prods {
				f.Prods[i].Prec = seed.Below(3) - 1
			}
			for _, l := range sample.Rows(numbers, c.row) {
				s.put(holdWords(t, f, l))
			}
		}
		if s.none < 100 || s.one < 100 || s.more < 100 {
			t.Errorf("%v: %v", c, s)
		}
	}
}

// P15.2 to P15.6: drawn grammars, with rows of some of their tokens.
func TestDrawnGrammars(t *testing.T) {
	seed := sample.Seed(154)
	var s seen
	for range 1500 {
		f := sample.Flat(&seed, sample.Symbols(2, 1+seed.Below(3)), 2+seed.Below(6), 3)
		if sample.Round(f) {
			continue
		}
		for i := range f.Prods {
			f.Prods[i].Prec = []int{0, 0, 0, 1, -1, 2, -99}[seed.Below(7)]
		}
		for range 6 {
			l := make([]int, seed.Below(6))
			for i := range l {
				l[i] = seed.Below(2)
			}
			if _, row, ok := sample.Way(&seed, f, 2, 2); ok && len(row) <= 7 {
				l = row
			}
			s.put(holdWords(t, f, l))
		}
	}
	if s.none < 100 || s.one < 100 || s.more < 100 {
		t.Errorf("%v", s)
	}
}

// P15.4, P15.5: of a row that comes of a grammar there is a way, and the one by which it was drawn is not ahead of the best.
func TestDrawnWays(t *testing.T) {
	seed := sample.Seed(155)
	others, long := 0, 0
	for range 3000 {
		f := sample.Flat(&seed, sample.Symbols(1+seed.Below(3), 1+seed.Below(4)), 3+seed.Below(9), 4)
		if sample.Round(f) {
			continue
		}
		for i := range f.Prods {
			f.Prods[i].Prec = seed.Below(5) - 2
		}
		d, l, ok := sample.Way(&seed, f, len(f.Terms), 5)
		if !ok || len(l) > api.MaxTokens {
			continue
		}
		if len(l) > 12 {
			long++
		}
		best, ok := Best(f, l)
		if !ok || !Accepts(f, l) || Count(f, l, 1) != 1 || !Fit(f, l, d) {
			t.Fatalf("%v, %v: %v is a way; Best tells %v", f, l, d, ok)
		}
		if !Fit(f, l, best) || best.Sym != len(f.Terms) || best.From != 0 || best.To != len(l) {
			t.Fatalf("%v, %v: %v is no way", f, l, best)
		}
		alike := reflect.DeepEqual(d, best)
		if Ahead(f, d, best) || Ahead(f, best, d) == alike {
			t.Fatalf("%v, %v: the best one is %v, and not %v", f, l, best, d)
		}
		if !alike {
			others++
		}
		if many := Count(f, l, 2); (many == 2) != (!alike || Count(f, l, 3) > 1) {
			t.Fatalf("%v, %v: %d ways, and two are known", f, l, many)
		}
	}
	if others < 50 || long < 50 {
		t.Errorf("%d that are not the best, %d long rows", others, long)
	}
}
