package item

import (
	"fmt"
	"reflect"
	"slices"
	"testing"

	"bramble/api"
	"bramble/sample"
)

// 0.5: what a call is given is as it was, and so is what lies behind it.
func TestArgumentsStay(t *testing.T) {
	for _, c := range closureCases() {
		was := plain(t, c.terms, c.nons, c.prods)
		f := sample.RoomyFlat(was)
		for _, l := range [][]api.Lr{sample.Lrs(f, c.l), every(f), slices.Repeat(sample.Lrs(f, c.l), 2)} {
			l = sample.RoomyList(l)
			slices.Reverse(l)
			before := fmt.Sprint(l[:cap(l)])
			Closure(f, l)
			Closure(f, l[:len(l)/2])
			for sym := -1; sym < 9; sym++ {
				Goto(f, l, sym)
				Goto(f, l[:len(l)/2], sym)
			}
			for _, x := range l {
				Fit(f, x)
				Next(f, x)
			}
			if after := fmt.Sprint(l[:cap(l)]); after != before {
				t.Errorf("%s: %s, not %s", c.what, after, before)
			}
		}
		First(f)
		All(f)
		if !reflect.DeepEqual(f, sample.RoomyFlat(was)) || !sample.FlatRoomStays(f) {
			t.Errorf("%s: the plain grammar has changed", c.what)
		}
	}
}

// spoil writes over a list, and behind it.
func spoil(l []api.Lr) {
	l = l[:cap(l)]
	for i := range l {
		l[i] = api.Lr{Prod: 77, Dot: 77, Look: 77}
	}
}

// What was told once may be written over: nothing that was given, is told later, or stands beside it changes.
func TestAnswersShareNothing(t *testing.T) {
	for _, c := range closureCases() {
		f := plain(t, c.terms, c.nons, c.prods)
		l := sample.Lrs(f, c.l)
		spoil(Closure(f, l))
		spoil(First(f))
		for sym := range len(f.Terms) + len(f.Nons) {
			spoil(Goto(f, l, sym))
		}
		closed := Closure(f, l)
		spoil(Closure(f, closed))
		holdLrs(t, c.what, f, closed, c.want)
		if !slices.Equal(l, sample.Lrs(f, c.l)) {
			t.Errorf("%s: what was given is %v", c.what, l)
		}
		told, _ := All(f)
		again, _ := All(f)
		for at := range told {
			spoil(told[at])
			if !equalSets(told[at+1:], again[at+1:]) {
				t.Errorf("%s: set %d shares what another one has", c.what, at)
			}
		}
		clear(told[:cap(told)])
		if fresh, _ := All(f); !equalSets(fresh, again) {
			t.Errorf("%s: %v, not %v", c.what, fresh, again)
		}
	}
}

// What was given may be written over: nothing that was told changes.
func TestAnswersKeepNothing(t *testing.T) {
	for _, c := range closureCases() {
		f := plain(t, c.terms, c.nons, c.prods)
		want := sample.Lrs(f, c.want)
		l := sample.Lrs(f, c.l)
		told := Closure(f, l)
		all, _ := All(f)
		before := fmt.Sprint(all)
		spoil(l)
		for i, p := range f.Prods {
			clear(p.Right)
			f.Prods[i] = api.Prod{}
		}
		if !slices.Equal(told, want) || fmt.Sprint(all) != before {
			t.Errorf("%s: %v, not %v; %v, not %s", c.what, told, want, all, before)
		}
	}
}
