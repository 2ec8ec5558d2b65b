package item

import (
	"slices"
	"testing"

	"bramble/api"
	"bramble/flat"
	"bramble/sample"
	"bramble/sets"
)

// syms is the symbols of a production's right side, by the chapter's words: the whole's is the first of Nons.
func syms(f api.Flat, prod int) []int {
	if prod == -1 {
		return []int{len(f.Terms)}
	}
	var l []int
	for _, i := range f.Prods[prod].Right {
		l = append(l, i.Sym)
	}
	return l
}

// every is each item of a plain grammar, in order.
func every(f api.Flat) []api.Lr {
	var l []api.Lr
	for prod := -1; prod < len(f.Prods); prod++ {
		for dot := range len(syms(f, prod)) + 1 {
			for look := range len(f.Terms) + 1 {
				l = append(l, api.Lr{Prod: prod, Dot: dot, Look: look})
			}
		}
	}
	return l
}

// those is the items of a plain grammar that are in a set, in order.
func those(f api.Flat, in map[api.Lr]int) []api.Lr {
	return slices.DeleteFunc(every(f), func(x api.Lr) bool { return in[x] == 0 })
}

// closureByWords is Closure by what it says of the set: what is missing is put in, till nothing is.
func closureByWords(f api.Flat, l []api.Lr) []api.Lr {
	in := map[api.Lr]int{}
	for _, x := range l {
		in[x] = 1
	}
	for had := -1; had < len(in); {
		had = len(in)
		for _, x := range those(f, in) {
			right := syms(f, x.Prod)
			if x.Dot == len(right) || right[x.Dot] < len(f.Terms) {
				continue
			}
			for prod, p := range f.Prods {
				if p.Left != right[x.Dot] {
					continue
				}
				for _, look := range sets.Ahead(f, sample.Items(right[x.Dot+1:]...), []int{x.Look}) {
					in[api.Lr{Prod: prod, Look: look}] = 1
				}
			}
		}
	}
	return those(f, in)
}

// gotoByWords is Goto.
func gotoByWords(f api.Flat, l []api.Lr, sym int) []api.Lr {
	var next []api.Lr
	for _, x := range every(f) {
		if right := syms(f, x.Prod); slices.Contains(l, x) && x.Dot < len(right) && right[x.Dot] == sym {
			next = append(next, api.Lr{Prod: x.Prod, Dot: x.Dot + 1, Look: x.Look})
		}
	}
	return closureByWords(f, next)
}

// allByWords is All of at most so many sets; of more it is none.
func allByWords(f api.Flat, most int) [][]api.Lr {
	all := [][]api.Lr{closureByWords(f, []api.Lr{{Prod: -1, Look: len(f.Terms)}})}
	for at := 0; at < len(all); at++ {
		for sym := range len(f.Terms) + len(f.Nons) {
			set := gotoByWords(f, all[at], sym)
			if len(set) > 0 && !slices.ContainsFunc(all, func(l []api.Lr) bool { return slices.Equal(l, set) }) {
				all = append(all, set)
			}
			if len(all) > most {
				return nil
			}
		}
	}
	return all
}

// drawn is items, most of them of a plain grammar.
func drawn(seed *sample.Seed, f api.Flat, many int) []api.Lr {
	all := every(f)
	var l []api.Lr
	for range many {
		x := all[seed.Below(len(all))]
		switch seed.Below(12) {
		case 0:
			x.Prod += seed.Below(7) - 3
		case 1:
			x.Dot += seed.Below(7) - 3
		case 2:
			x.Look += seed.Below(7) - 3
		}
		l = append(l, x)
	}
	return l
}

// agreeOf fails where something else is told of items than the chapter's words say.
func agreeOf(t *testing.T, f api.Flat, l []api.Lr) {
	t.Helper()
	if got, want := Closure(f, l), closureByWords(f, l); !slices.Equal(got, want) {
		t.Fatalf("%s: Closure of %v is %v, not %v", flat.Show(f), l, got, want)
	}
	for sym := -1; sym <= len(f.Terms)+len(f.Nons); sym++ {
		if got, want := Goto(f, l, sym), gotoByWords(f, l, sym); !slices.Equal(got, want) {
			t.Fatalf("%s: Goto of %v by %d is %v, not %v", flat.Show(f), l, sym, got, want)
		}
	}
}

// agree fails where something else is told of a plain grammar than the chapter's words say.
func agree(t *testing.T, seed *sample.Seed, f api.Flat) {
	t.Helper()
	mustFit(t, f)
	if got, want := First(f), closureByWords(f, []api.Lr{{Prod: -1, Look: len(f.Terms)}}); !slices.Equal(got, want) {
		t.Fatalf("%s: First is %v, not %v", flat.Show(f), got, want)
	}
	got, err := All(f)
	if err == api.OK && len(got) == 0 {
		t.Fatalf("%s: All is none", flat.Show(f))
	}
	if want := allByWords(f, 600); !equalSets(got, want) || (err == api.OK) != (want != nil) {
		t.Fatalf("%s: All is %v, %v, not %v", flat.Show(f), got, err, want)
	}
	agreeOf(t, f, drawn(seed, f, 1+seed.Below(6)))
}

func TestByWordsOfCases(t *testing.T) {
	seed := sample.Seed(20)
	for _, c := range closureCases() {
		f := plain(t, c.terms, c.nons, c.prods)
		agree(t, &seed, f)
		agreeOf(t, f, sample.Lrs(f, c.l))
		agreeOf(t, f, every(f))
		for _, x := range every(f) {
			agreeOf(t, f, []api.Lr{x})
		}
	}
}

// Every plain grammar of a few symbols and productions, in every order.
func TestByWordsOfAll(t *testing.T) {
	seed := sample.Seed(21)
	for _, c := range []struct{ terms, nons, prods, items int }{{2, 2, 2, 2}, {1, 2, 3, 2}, {2, 1, 3, 2}, {0, 2, 3, 2}, {1, 1, 4, 2}, {1, 3, 3, 1}, {1, 1, 2, 4}} {
		for f := range sample.Flats(sample.Symbols(c.terms, c.nons), c.prods, c.items) {
			agree(t, &seed, f)
		}
	}
}

func TestByWordsOfDrawn(t *testing.T) {
	seed := sample.Seed(22)
	many := 0
	for n := range 1500 {
		symbols := sample.Symbols(seed.Below(5), 1+seed.Below(5))
		f := sample.Flat(&seed, symbols, 2+seed.Below(9), 1+n%4)
		agree(t, &seed, f)
		agreeOf(t, f, drawn(&seed, f, 20))
		if all, _ := All(f); len(all) > 20 {
			many++
		}
	}
	if many < 100 {
		t.Errorf("%d of more than 20 sets", many)
	}
}
