package sample

import (
	"reflect"
	"strings"
	"testing"

	"bramble/api"
)

// bodyParts is the parts of a body.
func bodyParts(x api.Gx) []api.Gx {
	all := []api.Gx{x}
	for _, sub := range x.Subs {
		all = append(all, bodyParts(sub)...)
	}
	return all
}

func TestGram(t *testing.T) {
	one, two := Seed(5), Seed(5)
	met := map[string]int{}
	for range 300 {
		g := Gram(&one, 3)
		if !reflect.DeepEqual(g, Gram(&two, 3)) {
			t.Fatal("a seed tells other grammars")
		}
		if len(g.Tokens) != 4 || len(g.Rules) != 3 || g.Rules[0].Name != "r" || !g.Tokens[3].Skip {
			t.Fatalf("%v", g)
		}
		for _, r := range g.Rules {
			if depth(r.Body) > 3 {
				t.Fatalf("%v", r)
			}
			for _, x := range bodyParts(r.Body) {
				if x.Op == api.GxName || x.Op == api.GxLit {
					met[x.Name]++
				}
			}
		}
	}
	for _, name := range strings.Fields("a b _h r s _t x +") {
		if met[name] < 50 {
			t.Errorf("%s stands %d times", name, met[name])
		}
	}
	if len(met) != 8 {
		t.Errorf("%v", met)
	}
}

func TestSpell(t *testing.T) {
	f := FlatOf(`"x" "+" a b _h sp`, "r", "")
	one, two := Seed(5), Seed(5)
	blanks := 0
	for range 100 {
		s := Spell(&one, f, []int{0, 1, 2, -1, 3, 4, 5, 6, 2, 7})
		if s != Spell(&two, f, []int{0, 1, 2, -1, 3, 4, 5, 6, 2, 7}) {
			t.Fatal("a seed tells other texts")
		}
		if bare := strings.ReplaceAll(s, " ", ""); bare != "x+a?bh?a?" || !strings.Contains(s, "h ") {
			t.Fatalf("%q", s)
		}
		blanks += strings.Count(s, " ")
	}
	if blanks < 500 || blanks > 1500 || Spell(&one, f, nil) != "" {
		t.Errorf("%d blanks", blanks)
	}
}
