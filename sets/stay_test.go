package sets

import (
	"fmt"
	"reflect"
	"slices"
	"testing"

	"bramble/api"
	"bramble/sample"
)

// 0.5: what a call is given is as it was, and so is what lies behind it.
func TestArgumentsStay(t *testing.T) {
	for _, c := range plainCases() {
		was := plain(t, c.terms, c.nons, c.prods)
		f := sample.RoomyFlat(was)
		end := len(f.Terms)
		l := sample.RoomyList([]api.Item{{Sym: end, Field: "f"}, {Sym: -1}, {Sym: end, Alias: "g"}})
		behind := sample.RoomyList([]int{3, -1, 3, 0, 2})
		lists := func() string { return fmt.Sprint(l[:cap(l)], behind[:cap(behind)]) }
		before := lists()
		Empty(f)
		Useful(f)
		First(f)
		Follow(f)
		Ahead(f, l, behind)
		Ahead(f, l[:0], behind)
		Ahead(f, nil, behind[:1])
		for _, p := range f.Prods {
			Ahead(f, p.Right, behind)
		}
		if !reflect.DeepEqual(f, sample.RoomyFlat(was)) || !sample.FlatRoomStays(f) {
			t.Errorf("%s: the plain grammar has changed", c.what)
		}
		if lists() != before {
			t.Errorf("%s: %s, not %s", c.what, lists(), before)
		}
	}
}

// spoil writes over a list, and behind it.
func spoil(l []int) {
	l = l[:cap(l)]
	for i := range l {
		l[i] = 77
	}
}

// What was told once may be written over: nothing that is told later, or beside it, changes.
func TestAnswersShareNothing(t *testing.T) {
	for _, c := range plainCases() {
		f := plain(t, c.terms, c.nons, c.prods)
		was := wholeOf(f)
		for _, tell := range []func(api.Flat) [][]int{First, Follow} {
			told, again := tell(f), tell(f)
			for at := range told {
				spoil(told[at])
				if !equal(told[at+1:], again[at+1:]) {
					t.Errorf("%s: list %d shares what another one has", c.what, at)
				}
			}
			clear(told)
		}
		clear(Empty(f))
		clear(Useful(f))
		if wholeOf(f) != was {
			t.Errorf("%s: %s, not %s", c.what, wholeOf(f), was)
		}
	}
}

// What Ahead tells is none of what it was given, and is told again.
func TestAheadSharesNothing(t *testing.T) {
	f := plain(t, "x y", "a", "a ->; a -> y")
	for _, l := range [][]api.Item{nil, sample.Items(2), sample.Items(2, 9, 2), sample.Items(0), sample.Items(2, 1)} {
		behind := sample.RoomyList([]int{0, 1, 2})
		want := Ahead(f, l, behind)
		spoil(Ahead(f, l, behind))
		if !slices.Equal(behind[:cap(behind)], []int{0, 1, 2, 0, 0}) {
			t.Errorf("%v: behind is %v", l, behind[:cap(behind)])
		}
		if got := Ahead(f, l, behind); !slices.Equal(got, want) {
			t.Errorf("%v: %v, not %v", l, got, want)
		}
		spoil(behind)
		if fresh := Ahead(f, l, []int{0, 1, 2}); !slices.Equal(fresh, want) {
			t.Errorf("%v: %v, not %v", l, fresh, want)
		}
	}
}
