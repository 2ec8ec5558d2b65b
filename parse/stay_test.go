package parse

import (
	"fmt"
	"reflect"
	"slices"
	"testing"

	"bramble/api"
)

// roomy is the same in memory of its own, with room behind its lists; a list that is none stays so.
func roomy[T any](x T) T {
	return roomyValue(reflect.ValueOf(x)).Interface().(T)
}

func roomyValue(v reflect.Value) reflect.Value {
	made := reflect.New(v.Type()).Elem()
	made.Set(v)
	switch {
	case v.Kind() == reflect.Slice && !v.IsNil():
		made.Set(reflect.MakeSlice(v.Type(), v.Len(), v.Len()+2))
		for i := range v.Len() {
			made.Index(i).Set(roomyValue(v.Index(i)))
		}
	case v.Kind() == reflect.Struct:
		for i := range v.NumField() {
			made.Field(i).Set(roomyValue(v.Field(i)))
		}
	}
	return made
}

// whole is all that there is, and what lies behind each list.
func whole(all []any) string {
	var s string
	for _, x := range all {
		s += wholeValue(reflect.ValueOf(x)) + "; "
	}
	return s
}

func wholeValue(v reflect.Value) string {
	var s string
	switch v.Kind() {
	case reflect.Slice:
		s = fmt.Sprintf("[%v %d", v.IsNil(), v.Len())
		for i := range v.Cap() {
			s += " " + wholeValue(v.Slice(0, v.Cap()).Index(i))
		}
		return s + "]"
	case reflect.Struct:
		for i := range v.NumField() {
			s += wholeValue(v.Field(i)) + ","
		}
		return "{" + s + "}"
	}
	return fmt.Sprintf("%#v", v)
}

// spoil writes over all lists, and behind them.
func spoil(v reflect.Value) {
	switch v.Kind() {
	case reflect.Slice:
		all := v.Slice(0, v.Cap())
		for i := range all.Len() {
			spoil(all.Index(i))
			all.Index(i).SetZero()
		}
	case reflect.Struct:
		for i := range v.NumField() {
			spoil(v.Field(i))
		}
	}
}

// area is the memory of a list, from one address up to another one.
type area struct{ from, to uintptr }

// areas is the memory of all lists, and of what lies behind them.
func areas(all []any) []area {
	var l []area
	for _, x := range all {
		l = append(l, areasOf(reflect.ValueOf(x))...)
	}
	return l
}

func areasOf(v reflect.Value) []area {
	var l []area
	switch v.Kind() {
	case reflect.Slice:
		if v.Cap() > 0 {
			l = append(l, area{v.Pointer(), v.Pointer() + uintptr(v.Cap())*v.Type().Elem().Size()})
		}
		for i := range v.Len() {
			l = append(l, areasOf(v.Index(i))...)
		}
	case reflect.Struct:
		for i := range v.NumField() {
			l = append(l, areasOf(v.Field(i))...)
		}
	}
	return l
}

// overlap tells whether two of some areas have memory in common.
func overlap(l []area) bool {
	slices.SortFunc(l, func(a, b area) int {
		if a.from < b.from {
			return -1
		}
		return 1
	})
	for i := 1; i < len(l); i++ {
		if l[i].from < l[i-1].to {
			return true
		}
	}
	return false
}

// asked is what calls are given.
type asked struct {
	g   api.Gram
	x   api.Lang
	s   string
	old api.Node
	e   api.Edit
}

// told is all that calls tell of it.
type told struct {
	made   api.Lang
	tokens []api.Piece
	tree   api.Node
	again  api.Node
	kinds  []string
}

func (a asked) ask() told {
	var b told
	b.made, _ = Make(a.g)
	b.tokens = Tokens(a.x, a.s)
	b.tree = Tree(a.x, a.s)
	b.again, _ = Again(a.x, a.s, a.old, a.e)
	b.kinds = Kinds(a.x)
	Clean(a.x, a.s)
	Same(a.x, b.made)
	return b
}

// lists is all that has lists, each by itself.
func (a asked) lists() []any { return []any{a.g, a.x, a.old} }
func (b told) lists() []any  { return []any{b.made, b.tokens, b.tree, b.again, b.kinds} }

// questions is some, with room behind all lists.
func questions(t *testing.T) []asked {
	t.Helper()
	var all []asked
	for _, lines := range append([]string{sums, pairs, full}, small...) {
		g, x := read(t, lines), made(t, lines)
		for _, s := range []string{"", "1 + 2?", "a ?? ( b", "hha+ h ab??", "? ?", "ababababababababababababababababababababababa"} {
			for _, e := range []api.Edit{{}, {Text: "a"}, {At: len(s) / 2, Old: len(s) / 4, Text: " + "}, {At: 99}} {
				all = append(all, asked{roomy(g), roomy(x), s, roomy(Tree(x, s)), e})
			}
		}
	}
	return all
}

// 0.5: what a call is given is as it was, and so is what lies behind it.
func TestArgumentsStay(t *testing.T) {
	for i, a := range questions(t) {
		was := whole(a.lists())
		if a.ask(); whole(a.lists()) != was {
			t.Errorf("question %d: what was given has changed", i)
		}
	}
	a := questions(t)[0]
	was := whole(a.lists())
	_ = append(a.g.Rules[0].Body.Subs, api.Gx{Num: 1})
	if whole(a.lists()) == was {
		t.Error("a list that grew is not seen")
	}
}

// 0.5: what is told lies in memory of its own: no two lists that are given, or told by two calls, have any in common.
func TestAnswersShareNothing(t *testing.T) {
	for i, a := range questions(t) {
		b, again := a.ask(), a.ask()
		if overlap(areas(slices.Concat(a.lists(), b.lists(), again.lists()))) {
			t.Errorf("question %d: memory is shared", i)
		}
	}
	a := questions(t)[0]
	if !overlap(areas([]any{a.g, a.x, a.g.Rules[0].Body})) || overlap(areas([]any{a.g, a.x})) {
		t.Error("memory that is shared is not seen")
	}
}

// 0.5: what is told stays, whatever becomes of the arguments.
func TestAnswersKeepNothing(t *testing.T) {
	for i, a := range questions(t) {
		b := a.ask()
		was := whole(b.lists())
		for _, x := range a.lists() {
			spoil(reflect.ValueOf(x))
		}
		if whole(b.lists()) != was {
			t.Errorf("question %d: what was told has changed", i)
		}
	}
}

// 0.7: an empty list is none.
func TestEmptyLists(t *testing.T) {
	var look func(n api.Node)
	look = func(n api.Node) {
		if n.Kids != nil && len(n.Kids) == 0 {
			t.Errorf("%s has an empty list", show(n))
		}
		for _, kid := range n.Kids {
			look(kid)
		}
	}
	for _, a := range questions(t) {
		b := a.ask()
		look(b.tree)
		look(b.again)
		if b.tokens != nil && len(b.tokens) == 0 {
			t.Errorf("%q: an empty list of tokens", a.s)
		}
	}
}
