package sample

import (
	"slices"
	"testing"
)

func TestTexts(t *testing.T) {
	want := []string{"", "a", "é", "aa", "aé", "éa", "éé"}
	if got := Texts([]string{"a", "é"}, 2); !slices.Equal(got, want) {
		t.Errorf("%q, not %q", got, want)
	}
	if got := Texts([]string{"a"}, 0); !slices.Equal(got, want[:1]) {
		t.Errorf("%q of none", got)
	}
}

func TestSeed(t *testing.T) {
	a, b := Seed(5), Seed(5)
	met := make([]int, 7)
	for range 1000 {
		n := a.Below(7)
		if n != b.Below(7) {
			t.Fatal("a seed tells other numbers")
		}
		met[n]++
	}
	if slices.Contains(met, 0) {
		t.Errorf("each number so often: %v", met)
	}
}
