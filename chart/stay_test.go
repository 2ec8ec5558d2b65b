package chart

import (
	"fmt"
	"reflect"
	"slices"
	"testing"

	"bramble/api"
	"bramble/sample"
)

// asked is a plain grammar, a row and two ways of it.
type asked struct {
	f    api.Flat
	l    []int
	a, b api.Der
}

// roomy is the same in memory of its own, with room behind its lists.
func (x asked) roomy() asked {
	return asked{sample.RoomyFlat(x.f), sample.RoomyList(x.l), sample.RoomyWay(x.a), sample.RoomyWay(x.b)}
}

// stays tells whether all is as it was, and so is what lies behind it.
func (x asked) stays(was asked) bool {
	return reflect.DeepEqual(x, was.roomy()) && sample.FlatRoomStays(x.f) && sample.WayRoomStays(x.a) && sample.WayRoomStays(x.b) &&
		!slices.ContainsFunc(x.l[len(x.l):cap(x.l)], func(behind int) bool { return behind != 0 })
}

// questions is some that are drawn.
func questions() []asked {
	seed := sample.Seed(156)
	var all []asked
	for len(all) < 100 {
		f := sample.Flat(&seed, sample.Symbols(2, 3), 3+seed.Below(5), 3)
		a, l, ok := sample.Way(&seed, f, 2, 4)
		b, _, _ := sample.Way(&seed, f, 2, 4)
		if ok && len(l) <= 9 && !sample.Round(f) {
			all = append(all, asked{sample.DressedFlat(f), l, a, b})
		}
	}
	return all
}

// 0.5: what a call is given is as it was.
func TestArgumentsStay(t *testing.T) {
	for i, was := range questions() {
		now := was.roomy()
		callAll(now.f, now.l, now.a, now.b)
		callAll(now.f, now.l, now.b, now.a)
		if !now.stays(was) {
			t.Errorf("question %d has changed", i)
		}
	}
}

// 0.5: what is told lies in memory of its own: what is written over it is seen in no argument and in no other answer.
func TestAnswersShareNothing(t *testing.T) {
	for i, was := range questions() {
		now := was.roomy()
		told, _ := Best(now.f, now.l)
		text := fmt.Sprint(told)
		for _, part := range sample.PartsOf(&told) {
			_ = append(part.Kids, api.Der{Sym: 77})
		}
		if fmt.Sprint(told) != text {
			t.Errorf("question %d: lists of one answer share memory", i)
		}
		sample.SpoilWay(told)
		if again, _ := Best(now.f, now.l); fmt.Sprint(again) != text || !now.stays(was) {
			t.Errorf("question %d: memory is shared", i)
		}
	}
}

// 0.5: what is told stays, whatever becomes of the arguments.
func TestAnswersKeepNothing(t *testing.T) {
	for i, was := range questions() {
		now := was.roomy()
		told, _ := Best(now.f, now.l)
		text := fmt.Sprint(told)
		for k := range now.f.Prods {
			clear(now.f.Prods[k].Right)
		}
		clear(now.f.Prods)
		clear(now.l)
		if fmt.Sprint(told) != text {
			t.Errorf("question %d: what was told has changed", i)
		}
	}
}

// 0.7: an empty list is none, and what no sentence names has its zero value.
func TestEmptyLists(t *testing.T) {
	for i, x := range questions() {
		d, _ := Best(x.f, x.l)
		for _, part := range sample.PartsOf(&d) {
			if part.Kids != nil && len(part.Kids) == 0 || part.Junk != 0 {
				t.Errorf("question %d: %v", i, part)
			}
		}
	}
}

// The same is told each time, and names, Fields and Aliases play no part.
func TestNamesPlayNoPart(t *testing.T) {
	for i, x := range questions() {
		bare := sample.RoomyFlat(x.f)
		for _, p := range bare.Prods {
			for k := range p.Right {
				p.Right[k].Field, p.Right[k].Alias = "", ""
			}
		}
		bare.Terms, bare.Nons = []string{"x", "y"}, []string{"a", "b", "c"}
		d, ok := Best(x.f, x.l)
		same, is := Best(bare, x.l)
		if !reflect.DeepEqual(d, same) || ok != is || Count(bare, x.l, 99) != Count(x.f, x.l, 99) {
			t.Errorf("question %d: %v, %v", i, d, same)
		}
	}
}
