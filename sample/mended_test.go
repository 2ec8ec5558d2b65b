package sample

import (
	"reflect"
	"testing"

	"bramble/api"
)

// tookRow fails where a mended way is none of a row, from a place on; it tells where the way ends.
func tookRow(t *testing.T, f api.Flat, row []int, d api.Der, from int) int {
	t.Helper()
	at := from
	for _, kid := range d.Kids {
		at = tookRow(t, f, row, kid, at)
	}
	switch d.Prod {
	case -1:
		at += d.Junk + 1
		if row[at-1] != d.Sym || d.Junk < 0 {
			t.Fatalf("%v of %v", d, row)
		}
	case -2:
		if d.Sym >= len(f.Terms) || d.Junk != 0 {
			t.Fatalf("%v is missing", d)
		}
	default:
		if f.Prods[d.Prod].Left != d.Sym || len(f.Prods[d.Prod].Right) != len(d.Kids) || d.Junk != 0 {
			t.Fatalf("%v", d)
		}
	}
	if d.From != from || d.To != at {
		t.Fatalf("%v, and not from %d to %d", d, from, at)
	}
	return at
}

func TestMended(t *testing.T) {
	f := FlatOf("x y", "a b", "a -> a a; a -> x; a -> b y; b ->; b -> y b")
	one, two := Seed(5), Seed(5)
	junk, rests, missing, odd := make([]int, 3), make([]int, 3), 0, 0
	for range 300 {
		m, row, ok := Mended(&one, f, 3)
		if same, again, _ := Mended(&two, f, 3); !reflect.DeepEqual(m, same) || !reflect.DeepEqual(row, again) {
			t.Fatal("a seed tells other wholes")
		}
		if end := tookRow(t, f, row, m.Root, 0); !ok || m.Root.Sym != 2 || end+m.Rest != len(row) {
			t.Fatalf("%v of %v", m, row)
		}
		rests[m.Rest]++
		for _, part := range PartsOf(&m.Root) {
			junk[part.Junk]++
			if part.Prod == -2 {
				missing++
			}
		}
		for _, term := range row {
			if term < 0 || term > 1 {
				odd++
			}
		}
	}
	for _, so := range append(append(junk, rests...), missing, odd) {
		if so < 20 {
			t.Errorf("each Junk so often: %v; each Rest: %v; %d missing, %d no terminals", junk, rests, missing, odd)
		}
	}
	if m, row, ok := Mended(&one, FlatOf("x", "a", "a -> a x"), 3); ok || row != nil || m.Root.Kids != nil {
		t.Errorf("%v of what has none", m)
	}
}
