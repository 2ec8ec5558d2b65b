package sample

import (
	"slices"
	"strconv"
	"strings"

	"bramble/api"
)

// Lrs is items of a plain grammar by their Prods, Dots and Looks, as in "-1.0/$ 2.1/x,y": a Look is a terminal's name, $ for the end, or a number. What can't be read is -9, so that the item is not fit.
func Lrs(f api.Flat, s string) []api.Lr {
	var l []api.Lr
	for word := range strings.FieldsSeq(s) {
		ahead, looks, _ := strings.Cut(word, "/")
		prod, dot, _ := strings.Cut(ahead, ".")
		for look := range strings.SplitSeq(looks, ",") {
			l = append(l, api.Lr{Prod: number(prod), Dot: number(dot), Look: lookOf(f, look)})
		}
	}
	return l
}

func lookOf(f api.Flat, s string) int {
	if at := slices.Index(f.Terms, s); at >= 0 {
		return at
	}
	if s == "$" {
		return len(f.Terms)
	}
	return number(s)
}

func number(s string) int {
	n, err := strconv.Atoi(s)
	if err != nil {
		return -9
	}
	return n
}
