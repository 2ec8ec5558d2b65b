package mend

import (
	"fmt"
	"reflect"
	"slices"
	"testing"

	"bramble/api"
	"bramble/sample"
)

// asked is a plain grammar, a row and two wholes of the grammar's.
type asked struct {
	f    api.Flat
	l    []int
	a, b api.Mended
}

// roomy is the same in memory of its own, with room behind its lists.
func (x asked) roomy() asked {
	return asked{sample.RoomyFlat(x.f), sample.RoomyList(x.l), whole(x.a.Rest, sample.RoomyWay(x.a.Root)), whole(x.b.Rest, sample.RoomyWay(x.b.Root))}
}

// stays tells whether all is as it was, and so is what lies behind it.
func (x asked) stays(was asked) bool {
	return reflect.DeepEqual(x, was.roomy()) && sample.FlatRoomStays(x.f) && sample.WayRoomStays(x.a.Root) && sample.WayRoomStays(x.b.Root) &&
		!slices.ContainsFunc(x.l[len(x.l):cap(x.l)], func(behind int) bool { return behind != 0 })
}

// spoil writes over all that was asked.
func (x asked) spoil() {
	for i := range x.f.Prods {
		clear(x.f.Prods[i].Right)
	}
	clear(x.f.Prods)
	clear(x.f.Terms)
	clear(x.f.Nons)
	clear(x.l)
	sample.SpoilWay(x.a.Root)
	sample.SpoilWay(x.b.Root)
}

// answer is what is told of what was asked.
type answer struct {
	best api.Mended
	text []int
}

func (x asked) answer() answer {
	best, _ := Best(x.f, x.l)
	return answer{best, Text(x.a)}
}

// questions is some that are drawn.
func questions() []asked {
	seed := sample.Seed(189)
	var all []asked
	for len(all) < 100 {
		f := sample.Flat(&seed, sample.Symbols(2, 3), 3+seed.Below(5), 3)
		a, l, ok := sample.Mended(&seed, f, 4)
		b, _, _ := sample.Mended(&seed, f, 4)
		if ok && len(l) <= 12 && !sample.Round(f) {
			all = append(all, asked{sample.DressedFlat(f), l, a, b})
		}
	}
	return all
}

// 0.5: what a call is given is as it was.
func TestArgumentsStay(t *testing.T) {
	for i, was := range questions() {
		now := was.roomy()
		callAll(now.f, now.l, now.a, now.b)
		callAll(now.f, now.l, now.b, now.a)
		if !now.stays(was) {
			t.Errorf("question %d has changed", i)
		}
	}
}

// 0.5: what is told lies in memory of its own: what is written over it is seen in no argument and in no other answer.
func TestAnswersShareNothing(t *testing.T) {
	for i, was := range questions() {
		now := was.roomy()
		told := now.answer()
		words := fmt.Sprint(told)
		for _, part := range sample.PartsOf(&told.best.Root) {
			_ = append(part.Kids, api.Der{Sym: 77})
		}
		if fmt.Sprint(told) != words {
			t.Errorf("question %d: lists of one answer share memory", i)
		}
		sample.SpoilWay(told.best.Root)
		for k := range told.text[:cap(told.text)] {
			told.text[:cap(told.text)][k] = 77
		}
		if again := now.answer(); fmt.Sprint(again) != words || !now.stays(was) {
			t.Errorf("question %d: memory is shared", i)
		}
	}
}

// 0.5: what is told stays, whatever becomes of the arguments.
func TestAnswersKeepNothing(t *testing.T) {
	for i, was := range questions() {
		now := was.roomy()
		told := now.answer()
		words := fmt.Sprint(told)
		if now.spoil(); fmt.Sprint(told) != words {
			t.Errorf("question %d: what was told has changed", i)
		}
	}
}

// 0.7: an empty list is none.
func TestEmptyLists(t *testing.T) {
	for i, x := range questions() {
		told := x.answer()
		for _, part := range sample.PartsOf(&told.best.Root) {
			if part.Kids != nil && len(part.Kids) == 0 {
				t.Errorf("question %d: %v", i, part)
			}
		}
		if told.text != nil && len(told.text) == 0 {
			t.Errorf("question %d: a text of none", i)
		}
	}
}

// The same is told each time, and names, Fields and Aliases play no part.
func TestNamesPlayNoPart(t *testing.T) {
	for i, x := range questions() {
		bare := sample.RoomyFlat(x.f)
		for _, p := range bare.Prods {
			for k := range p.Right {
				p.Right[k].Field, p.Right[k].Alias = "", ""
			}
		}
		bare.Terms, bare.Nons = []string{"x", "y"}, []string{"a", "b", "c"}
		m, ok := Best(x.f, x.l)
		same, is := Best(bare, x.l)
		if !reflect.DeepEqual(m, same) || ok != is || !ok || Ahead(bare, x.a, x.b) != Ahead(x.f, x.a, x.b) {
			t.Errorf("question %d: %v, %v", i, m, same)
		}
	}
}
