package check

import (
	"fmt"
	"reflect"
	"slices"
	"strings"
	"testing"

	"bramble/api"
	"bramble/sample"
)

// ofFirst is what is told of the first rule: whether it can be empty, and the names of those that it can be alone, as they come.
func ofFirst(t *testing.T, lines string) (bool, string) {
	t.Helper()
	g := read(t, strings.Split(lines, "; ")...)
	empty, alone := Empty(g), Alone(g)
	if len(empty) != len(g.Rules) || len(alone) != len(g.Rules) {
		t.Fatalf("%s: Empty tells %v, Alone %v", lines, empty, alone)
	}
	s := ""
	for _, rule := range alone[0] {
		s += g.Rules[rule].Name
	}
	if len(alone[0]) == 0 && alone[0] != nil {
		t.Errorf("%s: an empty list is not none", lines)
	}
	return empty[0], s
}

func TestEmptyAndAloneTold(t *testing.T) {
	const rules = `; rule b "x"; rule c "x"?; rule d c c; rule e e "x" | e; token t x; skip s x; scan p yes`
	for _, c := range []struct {
		body  string
		empty bool
		alone string
	}{
		{``, true, ""},
		{`"x"`, false, ""},
		{`t`, false, ""},
		{`s`, false, ""},
		{`p`, false, ""},
		{`b`, false, "b"},
		{`c`, true, "c"},
		{`d`, true, "d"},
		{`e`, false, "e"},
		{`a`, false, "a"},
		{`b*`, true, "b"},
		{`b+`, false, "b"},
		{`c+`, true, "c"},
		{`b?`, true, "b"},
		{`x:b`, false, "b"},
		{`x:c`, true, "c"},
		{`b=x`, false, "b"},
		{`c=x`, true, "c"},
		{`%1 b`, false, "b"},
		{`%1 c`, true, "c"},
		{`%1`, true, ""},
		{`b b`, false, ""},
		{`b c`, false, "b"},
		{`c b`, false, "b"},
		{`c b d`, false, "b"},
		{`c d`, true, "cd"},
		{`d c`, true, "cd"},
		{`c c`, true, "c"},
		{`b b c`, false, ""},
		{`b "x"`, false, ""},
		{`"x" b`, false, ""},
		{`b t`, false, ""},
		{`b "x"?`, false, "b"},
		{`b? "x"`, false, ""},
		{`b? "x"*`, true, "b"},
		{`b? e?`, true, "be"},
		{`e b?`, false, "e"},
		{`b | c`, true, "bc"},
		{`c | b`, true, "bc"},
		{`b | e`, false, "be"},
		{`b | `, true, "b"},
		{` | "x"`, true, ""},
		{`"x" | t`, false, ""},
		{`b | "x" e`, false, "b"},
		{`e | d | c | b | a`, true, "abcde"},
		{`b c | c e`, false, "be"},
		{`(b | e) (c | "x")`, false, "be"},
		{`(b c)* (e "x")?`, true, "b"},
		{`x:(%2 (c b=y)+)`, false, "b"},
		{`(b | a "x")* d`, true, "bd"},
		{`b:"x" c:"y"=d`, false, ""},
		{`"b" | "c"?`, true, ""},
	} {
		empty, alone := ofFirst(t, "rule a "+c.body+rules)
		if empty != c.empty || alone != c.alone {
			t.Errorf("%q: %v, %q, not %v, %q", c.body, empty, alone, c.empty, c.alone)
		}
	}
}

// A rule can be empty only if that follows in the end from what needs no rule.
func TestEmptyIsTheLeast(t *testing.T) {
	for _, c := range []struct {
		lines string
		want  string
	}{
		{`rule a a`, "n"},
		{`rule a a a`, "n"},
		{`rule a b; rule b a`, "nn"},
		{`rule a b | c; rule b a; rule c a b`, "nnn"},
		{`rule a b | c; rule b a; rule c a b | `, "yyy"},
		{`rule a b; rule b c; rule c d; rule d `, "yyyy"},
		{`rule a ; rule b a; rule c b; rule d c`, "yyyy"},
		{`rule a b c; rule b d; rule c d d; rule d "x"*`, "yyyy"},
		{`rule a b c; rule b d; rule c d d; rule d "x"+`, "nnnn"},
		{`rule a b c; rule b "x"?; rule c b "y" | c`, "nyn"},
		{`rule a b+; rule b a=x | y:c; rule c %1 "x"?`, "yyy"},
		{`rule a "x"? a; rule b "x"?`, "ny"},
	} {
		g := read(t, strings.Split(c.lines, "; ")...)
		got := ""
		for _, empty := range Empty(g) {
			got += map[bool]string{true: "y", false: "n"}[empty]
		}
		if got != c.want {
			t.Errorf("%s: %s, not %s", c.lines, got, c.want)
		}
	}
}

// The places are those among rules, whatever tokens stand ahead.
func TestAloneTellsPlacesAmongRules(t *testing.T) {
	g := read(t, "token t x", "skip u x", "rule a d | c | t", "rule b a=x", `rule c "x"`, "rule d b b | c")
	want := [][]int{{2, 3}, {0}, nil, {2}}
	if got := Alone(g); !reflect.DeepEqual(got, want) {
		t.Errorf("%v, not %v", got, want)
	}
	if err, _ := Check(g); err != api.OK {
		t.Errorf("%v", err)
	}
	g = read(t, "token t x", "rule a t")
	if got := Alone(g); !reflect.DeepEqual(got, [][]int{nil}) {
		t.Errorf("of one rule: %v", got)
	}
}

// Where Check tells ErrKind or ErrRound it is still told what rules are; where it tells another error, nothing.
func TestEmptyAndAloneBesideErrors(t *testing.T) {
	for _, c := range []struct {
		lines string
		err   api.Errno
		empty []bool
		alone [][]int
	}{
		{`rule a b?; rule b "x"`, api.OK, []bool{true, false}, [][]int{{1}, nil}},
		{`skip s x; rule a s | b?; rule b "x" s`, api.ErrKind, []bool{true, false}, [][]int{{1}, nil}},
		{`rule a b*; rule b "x"?`, api.ErrRound, []bool{true, true}, [][]int{{1}, nil}},
		{`rule a b+; rule b a | "x"`, api.ErrRound, []bool{false, false}, [][]int{{1}, {0}}},
		{`rule a a`, api.ErrRound, []bool{false}, [][]int{{0}}},
		{`rule a b?; rule b "x"; rule b "x"`, api.ErrTwice, nil, nil},
		{`rule _a b?; rule b "x"`, api.ErrName, nil, nil},
		{`token t x*; rule a b?; rule b "x"`, api.ErrEmpty, nil, nil},
		{`rule a b?; rule b n`, api.ErrNone, nil, nil},
	} {
		g := read(t, strings.Split(c.lines, "; ")...)
		if err, _ := Check(g); err != c.err {
			t.Errorf("%s: %v, not %v", c.lines, err, c.err)
		}
		if got := Empty(g); !reflect.DeepEqual(got, c.empty) {
			t.Errorf("%s: Empty tells %v, not %v", c.lines, got, c.empty)
		}
		if got := Alone(g); !reflect.DeepEqual(got, c.alone) {
			t.Errorf("%s: Alone tells %v, not %v", c.lines, got, c.alone)
		}
	}
}

// shown is all that a part has, and what lies behind its lists.
func shown(x api.Gx) string {
	s := fmt.Sprint(x.Op, " ", x.Name, x.Num, len(x.Subs))
	for _, sub := range x.Subs[:cap(x.Subs)] {
		s += "(" + shown(sub) + ")"
	}
	return s
}

// shownGram is all that a grammar has, and what lies behind its lists.
func shownGram(g api.Gram) string {
	s := fmt.Sprint(g.Name, len(g.Tokens), len(g.Rules))
	for _, t := range g.Tokens[:cap(g.Tokens)] {
		s += fmt.Sprintf("%v %v;", t, t.Prog[:cap(t.Prog)])
	}
	for _, r := range g.Rules[:cap(g.Rules)] {
		s += r.Name + shown(r.Body) + ";"
	}
	return s
}

func TestArgumentsStay(t *testing.T) {
	for _, lines := range []string{
		`rule c b a | x:(a b)*=y; rule b a "x"?; rule a %1 c+ | "y"`,
		`token u [b-ya]+; skip s x; scan p yes; rule z z y x | u; rule y z?; rule x y p`,
		`token t x*; rule b n a; rule b b`,
	} {
		g := read(t, strings.Split(lines, "; ")...)
		g.Tokens = slices.Grow(g.Tokens, 3)
		g.Rules = slices.Grow(g.Rules, 3)
		for i := range g.Rules {
			g.Rules[i].Body = sample.Roomy(g.Rules[i].Body)
		}
		was := shownGram(g)
		Check(g)
		Empty(g)
		Alone(g)
		for _, r := range g.Rules {
			Uses(r.Body)
		}
		if shownGram(g) != was {
			t.Errorf("%s has changed", lines)
		}
	}
	x := sample.Roomy(api.Gx{Op: 99, Name: "z", Num: 7, Subs: []api.Gx{named("c", named("b"), named("a")), named("c"), {}}})
	was := shown(x)
	Uses(x)
	if shown(x) != was {
		t.Error("a part that is not fit has changed")
	}
}

// What was told once may be written over: nothing that is told later, or beside it, changes.
func TestAnswersShareNothing(t *testing.T) {
	g := read(t, `rule a b | c | d`, `rule b c | d`, `rule c d | "x"?`, `rule d "x"`)
	want := [][]int{{1, 2, 3}, {2, 3}, {3}, nil}
	first := Alone(g)
	for i := range first {
		rest := fmt.Sprint(first[i+1:])
		first[i] = append(first[i], 99, 99, 99)
		for j := range first[i] {
			first[i][j] = 77
		}
		if fmt.Sprint(first[i+1:]) != rest {
			t.Errorf("list %d shares what a later one has", i)
		}
	}
	empty := Empty(g)
	for i := range empty {
		empty[i] = !empty[i]
	}
	uses := Uses(g.Rules[0].Body)
	for i := range uses {
		uses[i] = "gone"
	}
	if got := Alone(g); !reflect.DeepEqual(got, want) {
		t.Errorf("Alone tells %v, not %v", got, want)
	}
	if got := Empty(g); !slices.Equal(got, []bool{true, true, true, false}) {
		t.Errorf("Empty tells %v", got)
	}
	if got := Uses(g.Rules[0].Body); !slices.Equal(got, []string{"b", "c", "d"}) {
		t.Errorf("Uses tells %q", got)
	}
}
