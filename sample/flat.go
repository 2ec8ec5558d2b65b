package sample

import (
	"cmp"
	"iter"
	"slices"
	"strconv"
	"strings"

	"bramble/api"
)

// FlatOf is a plain grammar by the names of its terminals, of its others, and its productions, as in "a -> b x; b -> %2": a number behind a % is what that production counts. A name that is none of them is the symbol -1, so that the grammar is not fit.
func FlatOf(terms, nons, prods string) api.Flat {
	f := api.Flat{Terms: strings.Fields(terms), Nons: strings.Fields(nons)}
	names := slices.Concat(f.Terms, f.Nons)
	if strings.TrimSpace(prods) == "" {
		return f
	}
	for line := range strings.SplitSeq(prods, ";") {
		left, right, _ := strings.Cut(line, "->")
		p := api.Prod{Left: slices.Index(names, strings.TrimSpace(left))}
		right, prec, counts := strings.Cut(right, "%")
		if counts {
			p.Prec = number(strings.TrimSpace(prec))
		}
		for name := range strings.FieldsSeq(right) {
			p.Right = append(p.Right, api.Item{Sym: slices.Index(names, name)})
		}
		f.Prods = append(f.Prods, p)
	}
	return f
}

// Items is items of symbols, without Fields and Aliases.
func Items(syms ...int) []api.Item {
	var l []api.Item
	for _, sym := range syms {
		l = append(l, api.Item{Sym: sym})
	}
	return l
}

// Symbols is a plain grammar of so many terminals, t0 and on, and so many others, n0 and on, without productions.
func Symbols(terms, nons int) api.Flat {
	var f api.Flat
	for i := range terms {
		f.Terms = append(f.Terms, "t"+strconv.Itoa(i))
	}
	for i := range nons {
		f.Nons = append(f.Nons, "n"+strconv.Itoa(i))
	}
	return f
}

// Flat is a plain grammar's symbols with so many productions that are drawn, of at most so many items each.
func Flat(seed *Seed, f api.Flat, prods, items int) api.Flat {
	f.Prods = nil
	for range prods {
		p := api.Prod{Left: len(f.Terms) + seed.Below(len(f.Nons))}
		for range seed.Below(items + 1) {
			p.Right = append(p.Right, api.Item{Sym: seed.Below(len(f.Terms) + len(f.Nons))})
		}
		f.Prods = append(f.Prods, p)
	}
	slices.SortStableFunc(f.Prods, func(a, b api.Prod) int { return cmp.Compare(a.Left, b.Left) })
	return f
}

// Prods is every production over a plain grammar's symbols of at most so many items, by Left rising.
func Prods(f api.Flat, items int) []api.Prod {
	rights := [][]api.Item{nil}
	for from := 0; items > 0; items-- {
		to := len(rights)
		for _, right := range rights[from:to] {
			for sym := range len(f.Terms) + len(f.Nons) {
				rights = append(rights, slices.Concat(right, []api.Item{{Sym: sym}}))
			}
		}
		from = to
	}
	var all []api.Prod
	for i := range f.Nons {
		for _, right := range rights {
			all = append(all, api.Prod{Left: len(f.Terms) + i, Right: right})
		}
	}
	return all
}

// Flats hands out every plain grammar of a plain grammar's symbols with at most so many productions, no two alike, of at most so many items each, in every order in which they can stand.
func Flats(f api.Flat, prods, items int) iter.Seq[api.Flat] {
	all := Prods(f, items)
	return func(yield func(api.Flat) bool) {
		f.Prods = nil
		handFlats(f, all, make([]bool, len(all)), prods, yield)
	}
}

// handFlats hands out a plain grammar, and what it becomes by productions more that are not taken yet.
func handFlats(f api.Flat, all []api.Prod, taken []bool, more int, yield func(api.Flat) bool) bool {
	if !yield(f) {
		return false
	}
	if more == 0 {
		return true
	}
	had := f.Prods
	for i, p := range all {
		if taken[i] || len(had) > 0 && p.Left < had[len(had)-1].Left {
			continue
		}
		taken[i] = true
		f.Prods = slices.Concat(had, []api.Prod{p})
		if !handFlats(f, all, taken, more-1, yield) {
			return false
		}
		taken[i] = false
	}
	return true
}

// RoomyFlat is a plain grammar in memory of its own, with room behind its lists, so that one that grows in place is seen.
func RoomyFlat(f api.Flat) api.Flat {
	made := api.Flat{Terms: RoomyList(f.Terms), Nons: RoomyList(f.Nons), Prods: RoomyList(f.Prods)}
	for i, p := range f.Prods {
		made.Prods[i].Right = RoomyList(p.Right)
	}
	return made
}

// DressedFlat is a plain grammar of the same symbols' numbers, with other names, that stand more than once, and with Fields, Aliases and Precs.
func DressedFlat(f api.Flat) api.Flat {
	f = RoomyFlat(f)
	for i, p := range f.Prods {
		f.Prods[i].Prec = 10000 - 20000*(i%2)
		for k := range p.Right {
			p.Right[k].Field, p.Right[k].Alias = "f", "_g"
		}
	}
	for _, l := range [][]string{f.Terms, f.Nons} {
		for i := range l {
			l[i] = "#1"
		}
	}
	return f
}

// FlatRoomStays tells whether what lies behind the lists is as RoomyFlat left it.
func FlatRoomStays(f api.Flat) bool {
	for _, p := range f.Prods {
		if !roomStays(p.Right) {
			return false
		}
	}
	for _, behind := range f.Prods[len(f.Prods):cap(f.Prods)] {
		if behind.Left != 0 || behind.Prec != 0 || behind.Right != nil {
			return false
		}
	}
	return roomStays(f.Terms) && roomStays(f.Nons)
}

// RoomyList is a list in memory of its own, with room behind it.
func RoomyList[T any](l []T) []T {
	return append(make([]T, 0, len(l)+2), l...)
}

func roomStays[T comparable](l []T) bool {
	var none T
	return !slices.ContainsFunc(l[len(l):cap(l)], func(behind T) bool { return behind != none })
}
