package check

import (
	"fmt"
	"slices"
	"strings"
	"testing"

	"bramble/api"
	"bramble/gram"
	"bramble/sample"
)

// body is a right side of a rule.
func body(t *testing.T, s string) api.Gx {
	t.Helper()
	x, f := gram.Body(s)
	if f.Err != api.OK {
		t.Fatalf("%q is no body: %v", s, f)
	}
	return x
}

func named(s string, subs ...api.Gx) api.Gx {
	return api.Gx{Op: api.GxName, Name: s, Subs: subs}
}

func TestUsesTold(t *testing.T) {
	for _, c := range []struct {
		s    string
		want []string
	}{
		{"", nil},
		{`"a"`, nil},
		{`"a" ("b" | )*`, nil},
		{`x:"a"`, nil},
		{`"a"=y`, nil},
		{`%3 x:("a"? | "b"+)=y`, nil},
		{"a", []string{"a"}},
		{"a a", []string{"a"}},
		{"a | a | a* a+ (a?)", []string{"a"}},
		{"b a", []string{"a", "b"}},
		{"c a b a c b", []string{"a", "b", "c"}},
		{"b a*", []string{"a", "b"}},
		{"b a+", []string{"a", "b"}},
		{"b a?", []string{"a", "b"}},
		{"b | a", []string{"a", "b"}},
		{"b | ", []string{"b"}},
		{"z:b y:a", []string{"a", "b"}},
		{"b=z a=y", []string{"a", "b"}},
		{"%9 b a", []string{"a", "b"}},
		{"(((b a)*)?)+", []string{"a", "b"}},
		{`b | %2 x:(c "e" | d*)=y f`, []string{"b", "c", "d", "f"}},
		{"a _ Z A z B9 B_ Ba BA B", []string{"A", "B", "B9", "BA", "B_", "Ba", "Z", "_", "a", "z"}},
		{"aa ab a a0 a_ aA b", []string{"a", "a0", "aA", "a_", "aa", "ab", "b"}},
		{"r10 r9 r1", []string{"r1", "r10", "r9"}},
	} {
		if got := Uses(body(t, c.s)); !slices.Equal(got, c.want) || len(got) == 0 && got != nil {
			t.Errorf("Uses of %q is %q, not %q", c.s, got, c.want)
		}
	}
}

// A name is found wherever it stands: behind, ahead of and within parts of each kind, known or not, whatever else the part has.
func TestUsesLooksWithinAll(t *testing.T) {
	for op := -2; op <= api.NumGxs+2; op++ {
		x := api.Gx{Op: op, Name: "own", Num: 7, Subs: []api.Gx{named("b"), {Op: op, Subs: []api.Gx{named("c")}}, named("a")}}
		want := []string{"a", "b", "c"}
		if op == api.GxName {
			want = []string{"", "a", "b", "c", "own"}
		}
		if got := Uses(x); !slices.Equal(got, want) {
			t.Errorf("kind %d: %q, not %q", op, got, want)
		}
	}
}

// Names that can't be are names all the same.
func TestUsesOfUnfitNames(t *testing.T) {
	x := api.Gx{Op: api.GxCat, Subs: []api.Gx{named("\xff"), named("9 9"), named(strings.Repeat("n", 99)), named(""), named("é"), named("\x00"), named("")}}
	if got, want := Uses(x), []string{"", "\x00", "9 9", strings.Repeat("n", 99), "é", "\xff"}; !slices.Equal(got, want) {
		t.Errorf("%q, not %q", got, want)
	}
	if got := Uses(api.Gx{}); got != nil {
		t.Errorf("of nothing: %q", got)
	}
}

func TestUsesOfManyParts(t *testing.T) {
	wide := api.Gx{Op: api.GxAlt}
	var want []string
	for i := range 4999 {
		s := fmt.Sprintf("n%04d", i)
		wide.Subs = append(wide.Subs, named(s))
		want = append(want, s)
	}
	if got := Uses(wide); !slices.Equal(got, want) {
		t.Errorf("5000 parts side by side: %d names", len(got))
	}
	slices.Reverse(wide.Subs)
	if got := Uses(wide); !slices.Equal(got, want) {
		t.Errorf("5000 parts, falling: %d names", len(got))
	}
	deep := named("n4999")
	for i := range 4999 {
		deep = named(fmt.Sprintf("n%04d", 4998-i), deep)
	}
	if got := Uses(deep); !slices.Equal(got, append(want, "n4999")) {
		t.Errorf("5000 parts within one another: %d names", len(got))
	}
	halves := api.Gx{Op: 99, Subs: []api.Gx{
		{Op: api.GxCat, Subs: slices.Repeat([]api.Gx{named("b")}, 2499)},
		{Op: api.GxCat, Subs: slices.Repeat([]api.Gx{named("a")}, 2497)},
	}}
	halves.Subs = append(halves.Subs, named("c"))
	if got := Uses(halves); !slices.Equal(got, []string{"a", "b", "c"}) {
		t.Errorf("5000 parts in two: %q", got)
	}
}

// Of what has too many parts no promise is made but that the calls end.
func TestEndlessEnds(t *testing.T) {
	for _, x := range sample.Endless() {
		Uses(x)
		g := api.Gram{Name: "g", Rules: []api.Rule{{Name: "a", Body: named("b")}, {Name: "b", Body: x}}}
		if err, place := Check(g); err != api.ErrState || place != 0 {
			t.Errorf("kind %d: %v at %d", x.Op, err, place)
		}
		if Empty(g) != nil || Alone(g) != nil {
			t.Errorf("kind %d: something is told", x.Op)
		}
	}
}
