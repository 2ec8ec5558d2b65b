package sample

import (
	"slices"
	"testing"

	"bramble/api"
)

func TestLrs(t *testing.T) {
	f := FlatOf("x y", "a", "a -> x a; a -> y")
	want := []api.Lr{{Prod: -1, Look: 2}, {Dot: 1}, {Dot: 1, Look: 1}, {Prod: 1, Dot: -2, Look: 7}, {Prod: 12, Dot: 30, Look: -4}, {Prod: -9, Dot: 2}, {Prod: 3, Dot: -9, Look: -9}, {Prod: 4, Dot: 5, Look: -9}}
	if got := Lrs(f, " -1.0/$  0.1/x,y 1.-2/7 12.30/-4 z.2/x 3 4.5/z "); !slices.Equal(got, want) {
		t.Errorf("%v, not %v", got, want)
	}
	if got := Lrs(f, " "); got != nil {
		t.Errorf("%v of none", got)
	}
}
