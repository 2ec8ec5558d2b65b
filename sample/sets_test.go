package sample

import "testing"

func TestFlatOfSets(t *testing.T) {
	for _, sets := range []int{2, 3, 66, 67, 600, 601} {
		for _, again := range []bool{false, true} {
			f := FlatOfSets(sets, again)
			items := 0
			for i, p := range f.Prods {
				items += len(p.Right)
				last := p.Right[len(p.Right)-1].Sym
				if p.Right[0].Sym != i || len(p.Right) > 64 || again && len(p.Right) > 1 && last != len(f.Terms) {
					t.Errorf("%d sets: %v", sets, p)
				}
			}
			if items != sets-2 || !rising(f) {
				t.Errorf("%d sets, %d items", sets, items)
			}
		}
	}
}

func TestLeftOnes(t *testing.T) {
	if f := LeftOnes(); len(f.Terms) != 399 || len(f.Prods) != 400 || len(f.Prods[399].Right) != 0 || f.Prods[7].Right[1].Sym != 7 || !rising(f) {
		t.Errorf("%v", f)
	}
}
