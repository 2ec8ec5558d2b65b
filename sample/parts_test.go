package sample

import (
	"reflect"
	"testing"

	"bramble/api"
)

// depth is how many parts lie within one another.
func depth(x api.Gx) int {
	n := 0
	for _, sub := range x.Subs {
		n = max(n, 1+depth(sub))
	}
	return n
}

func TestPart(t *testing.T) {
	a, b := Seed(5), Seed(5)
	met := make([]int, api.NumGxs)
	for i := range 1000 {
		x := Part(&a, i%5, func() api.Gx { return api.Gx{Op: api.GxLit, Name: "x"} })
		y := Part(&b, i%5, func() api.Gx { return api.Gx{Op: api.GxLit, Name: "x"} })
		if !reflect.DeepEqual(x, y) {
			t.Fatal("a seed tells other parts")
		}
		if depth(x) > i%5 {
			t.Fatalf("%d parts within one another, not %d", depth(x), i%5)
		}
		met[x.Op]++
	}
	for kind := api.GxLit; kind < api.NumGxs; kind++ {
		if met[kind] == 0 {
			t.Errorf("kind %d is not drawn", kind)
		}
	}
}

func TestRoomy(t *testing.T) {
	made := func() api.Gx {
		return api.Gx{Op: 3, Name: "n", Num: 7, Subs: []api.Gx{{Op: 5, Subs: []api.Gx{{Op: 1}}}, {Op: 2}}}
	}
	x := made()
	y := Roomy(x)
	if !RoomStays(y) || y.Op != 3 || y.Name != "n" || y.Num != 7 || len(y.Subs) != 2 || y.Subs[0].Subs[0].Op != 1 || y.Subs[1].Op != 2 {
		t.Fatalf("%v", y)
	}
	for i, part := range []func(api.Gx) api.Gx{
		func(x api.Gx) api.Gx { return x },
		func(x api.Gx) api.Gx { return x.Subs[0] },
		func(x api.Gx) api.Gx { return x.Subs[1] },
		func(x api.Gx) api.Gx { return x.Subs[0].Subs[0] },
	} {
		z := Roomy(x)
		if _ = append(part(z).Subs, api.Gx{Num: 1}); RoomStays(z) {
			t.Errorf("list %d grew in place, and it is not seen", i)
		}
	}
	y.Subs[0].Subs[0].Op = 9
	if !reflect.DeepEqual(x, made()) {
		t.Error("memory is shared")
	}
}

func TestEndless(t *testing.T) {
	met := make([]int, api.NumGxs)
	for _, x := range Endless() {
		for range 60 {
			if len(x.Subs) == 0 {
				t.Fatalf("kind %d ends", x.Op)
			}
			if x.Op > 0 && x.Op < api.NumGxs {
				met[x.Op]++
			}
			x = x.Subs[0]
		}
	}
	for kind := 1; kind < api.NumGxs; kind++ {
		if met[kind] == 0 {
			t.Errorf("kind %d is not there", kind)
		}
	}
}
