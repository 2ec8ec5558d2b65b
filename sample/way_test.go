package sample

import (
	"fmt"
	"reflect"
	"testing"

	"bramble/api"
)

func TestRound(t *testing.T) {
	for _, c := range []struct {
		prods string
		want  bool
	}{
		{"", false},
		{"a -> x", false},
		{"a -> a", true},
		{"a -> a x", false},
		{"a -> x a", false},
		{"a -> a a; a -> x", false},
		{"a -> a a; a ->", true},
		{"a -> a b", false},
		{"a -> a b; b ->", true},
		{"a -> b a; b ->", true},
		{"a -> b a c; b ->; c ->", true},
		{"a -> b a c; b ->; c -> x", false},
		{"a -> b; b -> a", true},
		{"a -> b; b -> c; c -> a", true},
		{"a -> b; b -> c; c -> b; c -> x", true},
		{"a -> b; b -> c; c -> a x", false},
		{"a -> b c; b -> c; c ->; c -> x", false},
		{"a -> b c; b -> a; c ->", true},
		{"a -> b c; b -> c c; c -> a", false},
		{"a -> b c; b -> c c; c -> a; c ->", true},
	} {
		if got := Round(FlatOf("x", "a b c", c.prods)); got != c.want {
			t.Errorf("%s: %v", c.prods, got)
		}
	}
}

// holdWay fails where a way is not one of a row's tokens.
func holdWay(t *testing.T, f api.Flat, row []int, d api.Der) {
	t.Helper()
	if d.Junk != 0 {
		t.Fatalf("%v", d)
	}
	if d.Sym < len(f.Terms) {
		if d.Prod != -1 || d.To != d.From+1 || row[d.From] != d.Sym || d.Kids != nil {
			t.Fatalf("%v of %v", d, row)
		}
		return
	}
	p := f.Prods[d.Prod]
	if p.Left != d.Sym || len(p.Right) != len(d.Kids) {
		t.Fatalf("%v by %v", d, p)
	}
	at := d.From
	for i, kid := range d.Kids {
		if kid.Sym != p.Right[i].Sym || kid.From != at {
			t.Fatalf("%v by %v", d, p)
		}
		holdWay(t, f, row, kid)
		at = kid.To
	}
	if at != d.To {
		t.Fatalf("%v", d)
	}
}

func TestWay(t *testing.T) {
	f := FlatOf("x y", "a b c", "a -> a a; a -> x; a -> b; a -> c; b -> y a; b ->; c -> c x")
	one, two := Seed(5), Seed(5)
	prods, lengths := make([]int, len(f.Prods)), map[int]int{}
	for deep := range 6 {
		for range 100 {
			d, row, ok := Way(&one, f, 2, deep)
			if same, again, _ := Way(&two, f, 2, deep); !reflect.DeepEqual(d, same) || !reflect.DeepEqual(row, again) {
				t.Fatal("a seed tells other ways")
			}
			if !ok || d.Sym != 2 || d.From != 0 || d.To != len(row) {
				t.Fatalf("%v of %v", d, row)
			}
			holdWay(t, f, row, d)
			lengths[len(row)]++
			for _, part := range PartsOf(&d) {
				if part.Prod >= 0 {
					prods[part.Prod]++
				}
			}
		}
	}
	for prod, many := range prods {
		if (many == 0) != (prod == 3 || prod == 6) {
			t.Errorf("production %d: %d times", prod, many)
		}
	}
	if lengths[0] == 0 || lengths[1] == 0 || lengths[7] == 0 {
		t.Errorf("rows of so many tokens: %v", lengths)
	}
	if _, _, ok := Way(&one, f, 4, 5); ok {
		t.Error("a way of what has none")
	}
	if d, row, ok := Way(&one, f, 1, 5); !ok || d.Prod != -1 || !reflect.DeepEqual(row, []int{1}) {
		t.Errorf("a way of a terminal: %v, %v", d, row)
	}
}

func TestAnyWay(t *testing.T) {
	a, b := Seed(5), Seed(5)
	many, junk, prods := make([]int, 8), map[int]int{}, map[int]int{}
	for range 500 {
		d := AnyWay(&a, 7)
		if !reflect.DeepEqual(d, AnyWay(&b, 7)) {
			t.Fatal("a seed tells other ways")
		}
		parts := PartsOf(&d)
		many[len(parts)]++
		for _, part := range parts {
			junk[part.Junk]++
			prods[part.Prod]++
		}
	}
	for _, so := range append(many[1:], junk[-1], junk[0], junk[1], prods[-2], prods[-1], prods[0], prods[4]) {
		if so == 0 {
			t.Fatalf("so many parts: %v; each Junk so often: %v; each Prod: %v", many, junk, prods)
		}
	}
}

func TestPartsOf(t *testing.T) {
	d := api.Der{Sym: 1, Kids: []api.Der{{Sym: 2, Kids: []api.Der{{Sym: 3}}}, {Sym: 4}}}
	for i, part := range PartsOf(&d) {
		if part.Sym != i+1 {
			t.Errorf("part %d: %v", i, part)
		}
		part.To = 7
	}
	if d.To != 7 || d.Kids[0].Kids[0].To != 7 || d.Kids[1].To != 7 {
		t.Errorf("%v", d)
	}
}

func TestRoomyWay(t *testing.T) {
	made := func() api.Der {
		return api.Der{Sym: 1, Prod: 2, From: 3, To: 4, Junk: 5, Kids: []api.Der{{Sym: 6, Kids: []api.Der{{Sym: 7, Kids: []api.Der{}}}}, {To: 3, Kids: []api.Der{}}}}
	}
	way := made()
	roomy := RoomyWay(way)
	if !WayRoomStays(roomy) || !reflect.DeepEqual(way, roomy) {
		t.Fatalf("%v", roomy)
	}
	for at := range PartsOf(&way) {
		for _, grown := range []api.Der{{Sym: 1}, {Prod: 1}, {From: 1}, {To: 1}, {Junk: 1}, {Kids: []api.Der{}}} {
			h := RoomyWay(way)
			if _ = append(PartsOf(&h)[at].Kids, grown); WayRoomStays(h) {
				t.Errorf("%v behind the Kids of part %d is not seen", grown, at)
			}
		}
	}
	for _, d := range PartsOf(&roomy) {
		d.Junk = 9
	}
	if !reflect.DeepEqual(way, made()) {
		t.Error("memory is shared")
	}
}

func TestOtherWay(t *testing.T) {
	a, b := Seed(5), Seed(5)
	was := api.Der{Sym: 1, Kids: []api.Der{{Prod: 1, Kids: []api.Der{{}, {To: 1}}}, {Sym: 2}}}
	text := fmt.Sprint(was)
	fewer, unlike := 0, map[string]int{}
	for range 300 {
		d := OtherWay(&a, was)
		if !reflect.DeepEqual(d, OtherWay(&b, was)) {
			t.Fatal("a seed tells other ways")
		}
		if unlike[fmt.Sprint(d)]++; len(PartsOf(&d)) < 5 {
			fewer++
		}
	}
	if fmt.Sprint(was) != text || len(unlike) < 100 || unlike[text] == 0 || fewer < 20 {
		t.Errorf("%v; %d unlike ones, %d as it was, %d with fewer parts", was, len(unlike), unlike[text], fewer)
	}
}

func TestSpoilWay(t *testing.T) {
	d := RoomyWay(api.Der{Sym: 1, Kids: []api.Der{{Sym: 2, Kids: []api.Der{{Sym: 3}}}, {Sym: 4}}})
	lists := [][]api.Der{d.Kids, d.Kids[0].Kids}
	SpoilWay(d)
	for i, l := range lists {
		for k, kid := range l[:cap(l)] {
			if kid.Sym != 77 || kid.Kids != nil {
				t.Errorf("list %d, kid %d: %v", i, k, kid)
			}
		}
	}
}

func TestEndlessWays(t *testing.T) {
	for i, d := range EndlessWays() {
		for range 60 {
			if len(d.Kids) == 0 {
				t.Fatalf("way %d ends", i)
			}
			d = d.Kids[len(d.Kids)-1]
		}
	}
}
