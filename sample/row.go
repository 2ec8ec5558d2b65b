package sample

import (
	"slices"
	"strings"

	"bramble/api"
)

// RowOf is a row by the names of a plain grammar's terminals; what is none of them is a number.
func RowOf(f api.Flat, s string) []int {
	var l []int
	for name := range strings.FieldsSeq(s) {
		term := slices.Index(f.Terms, name)
		if term < 0 {
			term = number(name)
		}
		l = append(l, term)
	}
	return l
}

// Rows is every row of at most so many of some numbers, the shorter ones first, each in memory of its own.
func Rows(numbers []int, most int) [][]int {
	all := [][]int{nil}
	for from := 0; most > 0; most-- {
		to := len(all)
		for _, l := range all[from:to] {
			for _, n := range numbers {
				all = append(all, append(slices.Clone(l), n))
			}
		}
		from = to
	}
	return all
}

// Row is a row that is drawn, of at most so many of a plain grammar's terminals.
func Row(seed *Seed, f api.Flat, most int) []int {
	var l []int
	for range seed.Below(most + 1) {
		l = append(l, seed.Below(len(f.Terms)))
	}
	return l
}
