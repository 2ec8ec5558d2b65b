package sample

import (
	"reflect"
	"testing"

	"bramble/api"
)

func TestTableOf(t *testing.T) {
	f := FlatOf("x y", "a", "a -> x a; a -> y")
	want := api.Table{Rows: []api.Row{
		{
			Acts: []api.Act{{Look: 0, To: 1}, {Look: 1, To: 12, Reduce: []int{0}}, {Look: 2, To: -1, Reduce: []int{1, -2}, Accept: true}},
			Goes: []api.Go{{Sym: 0, To: 1}, {Sym: 2, To: 3}, {Sym: 7, To: -9}},
		},
		{},
		{Acts: []api.Act{{Look: 2, To: -1, Accept: true}, {Look: -4, To: -9}, {Look: -9, To: -1, Reduce: []int{-9}}, {Look: 0, To: -1}}},
	}}
	if got := TableOf(f, " x>1 y>12/0  x=1 $/1,-2! a=3 7=z | |$! -4>z z/ x"); !reflect.DeepEqual(got, want) {
		t.Errorf("%v, not %v", got, want)
	}
}

func TestFitTable(t *testing.T) {
	a, b := Seed(5), Seed(5)
	f := FlatOf("x y", "a b", "a -> x a; a -> y; b ->")
	looks, syms, kinds := make([]int, 3), make([]int, 4), make([]int, 6)
	for range 200 {
		made := FitTable(&a, f, 3)
		if !reflect.DeepEqual(made, FitTable(&b, f, 3)) {
			t.Fatal("a seed tells other tables")
		}
		if len(made.Rows) != 3 {
			t.Fatalf("%v", made)
		}
		for _, r := range made.Rows {
			for _, x := range r.Acts {
				looks[x.Look]++
				kinds[len(x.Reduce)]++
				if x.To >= 0 {
					kinds[4]++
				}
				if x.Accept {
					kinds[5]++
				}
			}
			for _, x := range r.Goes {
				syms[x.Sym]++
			}
		}
	}
	for _, n := range append(append(looks, syms...), kinds...) {
		if n == 0 {
			t.Fatalf("each Look so often: %v; each symbol: %v; Acts of each kind: %v", looks, syms, kinds)
		}
	}
}

func TestAnyTable(t *testing.T) {
	a, b := Seed(5), Seed(5)
	rows, low, twice := make([]int, 4), 0, 0
	for range 200 {
		made := AnyTable(&a, 3)
		if !reflect.DeepEqual(made, AnyTable(&b, 3)) {
			t.Fatal("a seed tells other tables")
		}
		rows[len(made.Rows)]++
		for _, r := range made.Rows {
			looks := map[int]int{}
			for _, x := range r.Acts {
				looks[x.Look]++
				if x.To < -1 {
					low++
				}
			}
			if len(looks) < len(r.Acts) {
				twice++
			}
		}
	}
	for _, n := range append(rows, low, twice) {
		if n == 0 {
			t.Fatalf("so many rows so often: %v; %d Tos below -1; %d rows with a Look twice", rows, low, twice)
		}
	}
}

func TestRoomyTable(t *testing.T) {
	made := func() api.Table {
		return api.Table{Rows: []api.Row{
			{Acts: []api.Act{{Look: 1, To: 2, Reduce: []int{3}, Accept: true}, {Reduce: []int{}}}, Goes: []api.Go{{Sym: 4, To: 5}}},
			{Acts: []api.Act{}, Goes: []api.Go{}},
		}}
	}
	table := made()
	roomy := RoomyTable(table)
	if !TableRoomStays(roomy) || !reflect.DeepEqual(table, roomy) {
		t.Fatalf("%v", roomy)
	}
	for i, grow := range []func(api.Table){
		func(t api.Table) { _ = append(t.Rows, api.Row{Acts: []api.Act{}}) },
		func(t api.Table) { _ = append(t.Rows, api.Row{Goes: []api.Go{}}) },
		func(t api.Table) { _ = append(t.Rows[0].Acts, api.Act{Look: 1}) },
		func(t api.Table) { _ = append(t.Rows[1].Acts, api.Act{To: -1}) },
		func(t api.Table) { _ = append(t.Rows[1].Acts, api.Act{Reduce: []int{}}) },
		func(t api.Table) { _ = append(t.Rows[1].Acts, api.Act{Accept: true}) },
		func(t api.Table) { _ = append(t.Rows[0].Acts[1].Reduce, 7) },
		func(t api.Table) { _ = append(t.Rows[0].Goes, api.Go{Sym: 1}) },
		func(t api.Table) { _ = append(t.Rows[1].Goes, api.Go{To: 1}) },
	} {
		h := RoomyTable(table)
		if grow(h); TableRoomStays(h) {
			t.Errorf("growth %d is not seen", i)
		}
	}
	roomy.Rows[0].Acts[0].Reduce[0], roomy.Rows[0].Goes[0].To, roomy.Rows[0].Acts[1].Look = 9, 9, 9
	roomy.Rows[1] = api.Row{}
	if !reflect.DeepEqual(table, made()) {
		t.Error("memory is shared")
	}
}
