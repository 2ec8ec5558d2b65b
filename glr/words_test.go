package glr

import (
	"maps"
	"slices"
	"testing"

	"bramble/api"
	"bramble/flat"
	"bramble/gss"
	"bramble/sample"
	"bramble/table"
)

// What follows says the chapter's words once more, over and over again till nothing is new, so that the calls can be held against them.

func actByWords(t api.Table, state, look int) api.Act {
	for _, a := range t.Rows[state].Acts {
		if a.Look == look {
			return a
		}
	}
	return api.Act{Look: look, To: -1}
}

func goByWords(t api.Table, state, sym int) int {
	for _, g := range t.Rows[state].Goes {
		if g.Sym == sym {
			return g.To
		}
	}
	return -1
}

// backByWords is the nodes to which so many links lead.
func backByWords(p sample.Pile, node sample.Name, links int) map[sample.Name]int {
	back := map[sample.Name]int{node: 1}
	for range links {
		next := map[sample.Name]int{}
		for one := range back {
			maps.Copy(next, p[one])
		}
		back = next
	}
	return back
}

// lookByWords is what a place is ahead of; -1, if that is nothing.
func lookByWords(f api.Flat, l []int, at int) int {
	if at == len(l) {
		return len(f.Terms)
	}
	if l[at] < len(f.Terms) {
		return max(-1, l[at])
	}
	return -1
}

// pileByWords is the stack of a row.
func pileByWords(f api.Flat, t api.Table, l []int) sample.Pile {
	p := sample.Pile{}
	p.Put(sample.Name{0, 0})
	for nodes, links := 0, 0; nodes < len(p) || links < p.Links(); {
		nodes, links = len(p), p.Links()
		for _, node := range slices.Collect(maps.Keys(p)) {
			at, state := node[0], node[1]
			look := lookByWords(f, l, at)
			if look < 0 {
				continue
			}
			act := actByWords(t, state, look)
			if act.To >= 0 && at < len(l) {
				p.Put(sample.Name{at + 1, act.To}, node)
			}
			for _, prod := range act.Reduce {
				for q := range backByWords(p, node, len(f.Prods[prod].Right)) {
					if to := goByWords(t, q[1], f.Prods[prod].Left); to >= 0 {
						p.Put(sample.Name{at, to}, q)
					}
				}
			}
		}
	}
	return p
}

// aliveByWords is the greatest At of a stack.
func aliveByWords(p sample.Pile) int {
	alive := 0
	for node := range p {
		alive = max(alive, node[0])
	}
	return alive
}

// acceptsByWords tells whether a node at a row's end has a state that takes the whole.
func acceptsByWords(f api.Flat, t api.Table, l []int, p sample.Pile) bool {
	for node := range p {
		if node[0] == len(l) && actByWords(t, node[1], len(f.Terms)).Accept {
			return true
		}
	}
	return false
}

// nextByWords asks of each terminal whether a row is alive behind it.
func nextByWords(f api.Flat, t api.Table, l []int) []int {
	var next []int
	for term := range f.Terms {
		longer := append(slices.Clone(l), term)
		if Alive(f, t, longer) == len(longer) {
			next = append(next, term)
		}
	}
	return next
}

// holdWords fails where something else is told of a row than the chapter's words say, and tells its stack. Alive of rows that are longer by one is asked itself for Next: those rows are held against the words by others.
func holdWords(t *testing.T, f api.Flat, tables api.Table, l []int) sample.Pile {
	t.Helper()
	p := pileByWords(f, tables, l)
	if len(p) > api.MaxSlots {
		t.Fatalf("%v, %v, %v: too great to be held against the words", f, tables, l)
	}
	got, err := Run(f, tables, l)
	if want := p.Stack(); err != api.OK || !gss.Same(got, want) || !gss.Fit(got) {
		t.Fatalf("%v, %v, %v: Run: %v, %v, not %v", f, tables, l, got, err, want)
	}
	if got, want := Accepts(f, tables, l), acceptsByWords(f, tables, l, p); got != want {
		t.Fatalf("%v, %v, %v: Accepts: %v", f, tables, l, got)
	}
	if got, want := Alive(f, tables, l), aliveByWords(p); got != want {
		t.Fatalf("%v, %v, %v: Alive: %d, not %d", f, tables, l, got, want)
	}
	if got, want := Next(f, tables, l), nextByWords(f, tables, l); !slices.Equal(got, want) {
		t.Fatalf("%v, %v, %v: Next: %v, not %v", f, tables, l, got, want)
	}
	return p
}

// plain is a fit plain grammar by its terminals' names, its others', and its productions.
func plain(t *testing.T, terms, nons, prods string) api.Flat {
	t.Helper()
	f := sample.FlatOf(terms, nons, prods)
	if !flat.Fit(f) {
		t.Fatalf("%s is not fit", prods)
	}
	return f
}

// tablesOf is tables by their text that are Fit for a plain grammar.
func tablesOf(t *testing.T, f api.Flat, s string) api.Table {
	t.Helper()
	tables := sample.TableOf(f, s)
	if !table.Fit(f, tables) {
		t.Fatalf("%s is not Fit", s)
	}
	return tables
}

// built is a plain grammar's tables.
func built(t *testing.T, f api.Flat) api.Table {
	t.Helper()
	tables, err := table.Build(f)
	if err != api.OK || !table.Fit(f, tables) {
		t.Fatalf("%v: %v", f, err)
	}
	return tables
}

func isTorn(t api.Table) bool {
	return len(table.Torn(t)) > 0
}
