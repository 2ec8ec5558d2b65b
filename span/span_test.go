package span

import (
	"math"
	"slices"
	"testing"

	"bramble/api"
)

// most is above every number of the small ranges.
const most = 6

// of is ranges by their ends, one behind the other.
func of(ends ...int) []api.Range {
	var l []api.Range
	for i := 0; i < len(ends); i += 2 {
		l = append(l, api.Range{From: ends[i], To: ends[i+1]})
	}
	return l
}

// has tells by the words of the chapter whether any ranges have a byte: none is below 0.
func has(l []api.Range, at int) bool {
	return at >= 0 && slices.ContainsFunc(l, func(r api.Range) bool { return r.From <= at && at < r.To })
}

// sorted tells by the words of the chapter whether ranges are of the normal form.
func sorted(l []api.Range) bool {
	for i, r := range l {
		if r.From < 0 || r.From >= r.To {
			return false
		}
		if i > 0 && l[i-1].To >= r.From {
			return false
		}
	}
	return true
}

// bytesOf is the bytes of ranges, one by one.
func bytesOf(l []api.Range) []int {
	var all []int
	for at := range most + 1 {
		if has(l, at) {
			all = append(all, at)
		}
	}
	return all
}

// runs is the normal form of some bytes, told byte by byte.
func runs(all []int) []api.Range {
	var l []api.Range
	for _, at := range all {
		if len(l) > 0 && l[len(l)-1].To == at {
			l[len(l)-1].To++
			continue
		}
		l = append(l, api.Range{From: at, To: at + 1})
	}
	return l
}

// lists is all lists of at most n ranges with their ends among the numbers.
func lists(numbers []int, n int) [][]api.Range {
	all := [][]api.Range{nil}
	for from := 0; n > 0; n-- {
		to := len(all)
		for _, l := range all[from:to] {
			for _, a := range numbers {
				for _, b := range numbers {
					all = append(all, append(slices.Clone(l), api.Range{From: a, To: b}))
				}
			}
		}
		from = to
	}
	return all
}

// normals is every set of the bytes below most, in its normal form.
func normals() [][]api.Range {
	var all [][]api.Range
	for set := range 1 << most {
		var l []int
		for at := range most {
			if set>>at&1 == 1 {
				l = append(l, at)
			}
		}
		all = append(all, runs(l))
	}
	return all
}

// small is numbers on both sides of 0.
func small() []int { return []int{-2, -1, 0, 1, 2, 3, 4, 5} }

// great is numbers where sums and differences wrap round.
func great() []int {
	return []int{math.MinInt, math.MinInt + 1, -1, 0, 1, math.MaxInt / 2, math.MaxInt - 1, math.MaxInt}
}

// wide is normal forms with great numbers in them.
func wide() [][]api.Range {
	const top = math.MaxInt
	return [][]api.Range{
		of(0, top), of(top-1, top), of(0, 1, top-1, top), of(1, top/2, top/2+2, top), of(0, top-2, top-1, top), of(5, 7, top/2, top-3),
	}
}

func TestNormTold(t *testing.T) {
	for _, c := range []struct{ l, want []api.Range }{
		{of(5, 7, 1, 3, 3, 4), of(1, 4, 5, 7)},
		{nil, nil},
		{[]api.Range{}, nil},
		{of(3, 3), nil},
		{of(4, 3), nil},
		{of(0, 0), nil},
		{of(-3, -1), nil},
		{of(-3, 0), nil},
		{of(-3, 1), of(0, 1)},
		{of(-3, -1, 2, 4), of(2, 4)},
		{of(-5, 2, -1, 3), of(0, 3)},
		{of(0, 9, 2, 3), of(0, 9)},
		{of(2, 3, 0, 9), of(0, 9)},
		{of(1, 5, 3, 8), of(1, 8)},
		{of(3, 8, 1, 5), of(1, 8)},
		{of(1, 2, 2, 3), of(1, 3)},
		{of(2, 3, 1, 2), of(1, 3)},
		{of(1, 2, 3, 4), of(1, 2, 3, 4)},
		{of(3, 4, 1, 2), of(1, 2, 3, 4)},
		{of(1, 4, 1, 4, 1, 4), of(1, 4)},
		{of(1, 3, 5, 5, 6, 4, 7, 8), of(1, 3, 7, 8)},
		{of(1, 3, 3, 3, 3, 5), of(1, 5)},
		{of(math.MinInt, math.MaxInt), of(0, math.MaxInt)},
		{of(math.MaxInt, math.MinInt), nil},
		{of(math.MaxInt, math.MaxInt), nil},
		{of(math.MaxInt-1, math.MaxInt, math.MinInt, 1), of(0, 1, math.MaxInt-1, math.MaxInt)},
		{of(math.MaxInt-2, math.MaxInt-1, math.MaxInt-1, math.MaxInt), of(math.MaxInt-2, math.MaxInt)},
	} {
		if got := Norm(c.l); !slices.Equal(got, c.want) {
			t.Errorf("Norm(%v) = %v, not %v", c.l, got, c.want)
		}
	}
}

func TestNormOfAll(t *testing.T) {
	for _, l := range lists(small(), 3) {
		got := Norm(l)
		if want := runs(bytesOf(l)); !slices.Equal(got, want) {
			t.Fatalf("Norm(%v) = %v, not %v", l, got, want)
		}
		if got != nil && len(got) == 0 {
			t.Fatalf("Norm(%v) is an empty list, not none", l)
		}
		if again := Norm(got); !slices.Equal(again, got) {
			t.Fatalf("Norm(%v) = %v: it is of the normal form", got, again)
		}
	}
}

// One set has but one normal form: in whatever order its bytes stand.
func TestNormOfManyRanges(t *testing.T) {
	var l, want []api.Range
	for i := range 1000 {
		at := i * 7 % 1000
		l = append(l, api.Range{From: 3 * at, To: 3*at + 2})
		want = append(want, api.Range{From: 3 * i, To: 3*i + 2})
	}
	if got := Norm(l); !slices.Equal(got, want) {
		t.Errorf("Norm of ranges out of order: %v", got)
	}
	for i := range 1000 {
		l = append(l, api.Range{From: 3*i + 2, To: 3*i + 3})
	}
	if got := Norm(l); !slices.Equal(got, of(0, 3000)) {
		t.Errorf("Norm of ranges that touch: %v", got)
	}
}

func TestFitTold(t *testing.T) {
	for _, c := range []struct {
		l    []api.Range
		want bool
	}{
		{nil, true},
		{[]api.Range{}, true},
		{of(0, 1), true},
		{of(1, 4, 5, 7), true},
		{of(1, 4, 4, 7), false},
		{of(1, 4, 3, 7), false},
		{of(5, 7, 1, 4), false},
		{of(1, 9, 2, 3), false},
		{of(1, 2, 1, 2), false},
		{of(3, 3), false},
		{of(4, 3), false},
		{of(0, 0), false},
		{of(1, 2, 3, 3), false},
		{of(-1, 2), false},
		{of(-2, -1), false},
		{of(0, math.MaxInt), true},
		{of(math.MinInt, math.MaxInt), false},
		{of(math.MaxInt, math.MinInt), false},
		{of(0, 1, math.MaxInt-1, math.MaxInt), true},
	} {
		if got := Fit(c.l); got != c.want {
			t.Errorf("Fit(%v) = %v", c.l, got)
		}
	}
}

func TestFitIsItsOwnNormalForm(t *testing.T) {
	for _, l := range slices.Concat(lists(small(), 3), lists(great(), 2)) {
		if got := Fit(l); got != slices.Equal(Norm(l), l) || got != sorted(l) {
			t.Fatalf("Fit(%v) = %v, Norm is %v", l, got, Norm(l))
		}
	}
}

func TestSetsTold(t *testing.T) {
	for _, c := range []struct{ a, b, join, meet, less []api.Range }{
		{nil, nil, nil, nil, nil},
		{of(1, 4), nil, of(1, 4), nil, of(1, 4)},
		{nil, of(1, 4), of(1, 4), nil, nil},
		{of(1, 4), of(1, 4), of(1, 4), of(1, 4), nil},
		{of(1, 4), of(4, 6), of(1, 6), nil, of(1, 4)},
		{of(4, 6), of(1, 4), of(1, 6), nil, of(4, 6)},
		{of(1, 4), of(5, 6), of(1, 4, 5, 6), nil, of(1, 4)},
		{of(1, 5), of(3, 8), of(1, 8), of(3, 5), of(1, 3)},
		{of(3, 8), of(1, 5), of(1, 8), of(3, 5), of(5, 8)},
		{of(0, 9), of(3, 5), of(0, 9), of(3, 5), of(0, 3, 5, 9)},
		{of(3, 5), of(0, 9), of(0, 9), of(3, 5), nil},
		{of(5, 7, 1, 3), of(2, 6), of(1, 7), of(2, 3, 5, 6), of(1, 2, 6, 7)},
		{of(1, 3, 3, 6), of(2, 4), of(1, 6), of(2, 4), of(1, 2, 4, 6)},
		{of(-4, 3), of(-9, 1), of(0, 3), of(0, 1), of(1, 3)},
		{of(2, 2, 5, 1), of(0, 3, 3, 3), of(0, 3), nil, nil},
		{of(math.MinInt, math.MaxInt), of(3, 4), of(0, math.MaxInt), of(3, 4), of(0, 3, 4, math.MaxInt)},
		{of(0, math.MaxInt-1), of(math.MaxInt-1, math.MaxInt), of(0, math.MaxInt), nil, of(0, math.MaxInt-1)},
	} {
		if got := Join(c.a, c.b); !slices.Equal(got, c.join) {
			t.Errorf("Join(%v, %v) = %v, not %v", c.a, c.b, got, c.join)
		}
		if got := Meet(c.a, c.b); !slices.Equal(got, c.meet) {
			t.Errorf("Meet(%v, %v) = %v, not %v", c.a, c.b, got, c.meet)
		}
		if got := Less(c.a, c.b); !slices.Equal(got, c.less) {
			t.Errorf("Less(%v, %v) = %v, not %v", c.a, c.b, got, c.less)
		}
	}
}

// checkSets asks at each of the places whether the sets of a and b have what or, and, and not say.
func checkSets(t *testing.T, a, b []api.Range, places []int) {
	t.Helper()
	join, meet, less := Join(a, b), Meet(a, b), Less(a, b)
	for _, at := range places {
		inA, inB := has(a, at), has(b, at)
		if has(join, at) != (inA || inB) || has(meet, at) != (inA && inB) || has(less, at) != (inA && !inB) {
			t.Fatalf("of %v and %v at %d: %v, %v, %v", a, b, at, join, meet, less)
		}
	}
	for _, l := range [][]api.Range{join, meet, less} {
		if !sorted(l) || l != nil && len(l) == 0 {
			t.Fatalf("of %v and %v: %v is not of the normal form", a, b, l)
		}
	}
}

func TestAlgebraOfAllSmall(t *testing.T) {
	all := lists([]int{-1, 0, 1, 2, 3}, 2)
	for _, a := range all {
		for _, b := range all {
			checkSets(t, a, b, []int{-2, -1, 0, 1, 2, 3})
		}
	}
	for _, a := range normals() {
		for _, b := range normals() {
			checkSets(t, a, b, []int{0, 1, 2, 3, 4, 5, 6})
		}
	}
}

func TestAlgebraOfGreat(t *testing.T) {
	var places []int
	for _, n := range great() {
		places = append(places, n-1, n, n+1)
	}
	all := slices.Concat(lists(great(), 1), wide(), normals())
	for _, a := range all {
		for _, b := range all {
			checkSets(t, a, b, places)
		}
	}
}

func TestSizeTold(t *testing.T) {
	for _, c := range []struct {
		l    []api.Range
		want int
	}{
		{nil, 0},
		{[]api.Range{}, 0},
		{of(0, 1), 1},
		{of(7, 9), 2},
		{of(1, 4, 5, 7), 5},
		{of(0, math.MaxInt), math.MaxInt},
		{of(0, 1, math.MaxInt-1, math.MaxInt), 2},
	} {
		if got := Size(c.l); got != c.want {
			t.Errorf("Size(%v) = %d, not %d", c.l, got, c.want)
		}
	}
}

func TestTextTold(t *testing.T) {
	for _, c := range []struct {
		s    string
		l    []api.Range
		want string
	}{
		{"abcdefgh", of(1, 4, 5, 7), "bcdfg"},
		{"abcdefgh", nil, ""},
		{"", of(0, 4), ""},
		{"", nil, ""},
		{"abcd", of(0, 4), "abcd"},
		{"abcd", of(0, 9), "abcd"},
		{"abcd", of(3, 9), "d"},
		{"abcd", of(4, 9), ""},
		{"abcd", of(5, 9), ""},
		{"abcd", of(0, 1, 2, 3, 4, 5, 6, 7), "ac"},
		{"abcd", of(1, 2, 3, math.MaxInt), "bd"},
		{"abcd", of(0, 1, math.MaxInt-1, math.MaxInt), "a"},
		{"ä\x00\xff\n", of(1, 2, 3, 5), "\xa4\xff\n"},
	} {
		if got := Text(c.s, c.l); got != c.want {
			t.Errorf("Text(%q, %v) = %q, not %q", c.s, c.l, got, c.want)
		}
	}
}

func TestOuterTold(t *testing.T) {
	const top = math.MaxInt
	for _, c := range []struct {
		l    []api.Range
		at   int
		want int
		ok   bool
	}{
		{of(1, 4, 5, 7), 3, 5, true},
		{of(1, 4, 5, 7), 0, 1, true},
		{of(1, 4, 5, 7), 2, 3, true},
		{of(1, 4, 5, 7), 4, 6, true},
		{of(1, 4, 5, 7), 5, 0, false},
		{of(1, 4, 5, 7), -1, 0, false},
		{of(1, 4, 5, 7), top, 0, false},
		{of(1, 4, 5, 7), math.MinInt, 0, false},
		{nil, 0, 0, false},
		{nil, -1, 0, false},
		{of(0, 1), 0, 0, true},
		{of(0, 1), 1, 0, false},
		{of(0, top), top - 1, top - 1, true},
		{of(0, top), top, 0, false},
		{of(0, top), math.MinInt, 0, false},
		{of(0, 1, top-1, top), 1, top - 1, true},
		{of(0, 1, top-1, top), 2, 0, false},
	} {
		if got, ok := Outer(c.l, c.at); got != c.want || ok != c.ok {
			t.Errorf("Outer(%v, %d) = %d, %v, not %d, %v", c.l, c.at, got, ok, c.want, c.ok)
		}
	}
}

func TestInnerTold(t *testing.T) {
	const top = math.MaxInt
	for _, c := range []struct {
		l    []api.Range
		at   int
		want int
		ok   bool
	}{
		{of(1, 4, 5, 7), 0, 0, false},
		{of(1, 4, 5, 7), 1, 0, true},
		{of(1, 4, 5, 7), 3, 2, true},
		{of(1, 4, 5, 7), 4, 3, false},
		{of(1, 4, 5, 7), 5, 3, true},
		{of(1, 4, 5, 7), 6, 4, true},
		{of(1, 4, 5, 7), 7, 5, false},
		{of(1, 4, 5, 7), top, 5, false},
		{of(1, 4, 5, 7), -1, 0, false},
		{of(1, 4, 5, 7), math.MinInt, 0, false},
		{of(0, 2), -1, 0, false},
		{of(0, 2), 0, 0, true},
		{nil, 0, 0, false},
		{nil, top, 0, false},
		{of(0, top), top - 1, top - 1, true},
		{of(0, top), top, top, false},
		{of(0, top), math.MinInt, 0, false},
		{of(0, 1, top-1, top), top - 1, 1, true},
		{of(0, 1, top-1, top), top - 2, 1, false},
		{of(0, 1, top-1, top), top, 2, false},
	} {
		if got, ok := Inner(c.l, c.at); got != c.want || ok != c.ok {
			t.Errorf("Inner(%v, %d) = %d, %v, not %d, %v", c.l, c.at, got, ok, c.want, c.ok)
		}
	}
}

func TestSplitTold(t *testing.T) {
	const top = math.MaxInt
	for _, c := range []struct {
		l    []api.Range
		x    api.Range
		want []api.Range
	}{
		{of(1, 4, 5, 7), api.Range{From: 0, To: 5}, of(1, 4, 5, 7)},
		{of(1, 4, 5, 7), api.Range{From: 2, To: 4}, of(3, 4, 5, 6)},
		{of(1, 4, 5, 7), api.Range{From: 0, To: 3}, of(1, 4)},
		{of(1, 4, 5, 7), api.Range{From: 3, To: 5}, of(5, 7)},
		{of(1, 4, 5, 7), api.Range{From: 1, To: 2}, of(2, 3)},
		{of(1, 4, 5, 7), api.Range{From: 4, To: 9}, of(6, 7)},
		{of(1, 4, 5, 7), api.Range{From: 5, To: 9}, nil},
		{of(1, 4, 5, 7), api.Range{From: 3, To: 3}, nil},
		{of(1, 4, 5, 7), api.Range{From: 4, To: 2}, nil},
		{of(1, 4, 5, 7), api.Range{From: -2, To: 1}, of(1, 2)},
		{of(1, 4, 5, 7), api.Range{From: -2, To: 0}, nil},
		{of(1, 4, 5, 7), api.Range{From: -2, To: -1}, nil},
		{of(1, 4, 5, 7), api.Range{From: math.MinInt, To: top}, of(1, 4, 5, 7)},
		{of(1, 4, 5, 7), api.Range{From: top, To: math.MinInt}, nil},
		{nil, api.Range{From: 0, To: 9}, nil},
		{of(0, top), api.Range{From: top - 1, To: top}, of(top-1, top)},
		{of(0, 1, top-1, top), api.Range{From: 1, To: 2}, of(top-1, top)},
		{of(1, top), api.Range{From: 3, To: top}, of(4, top)},
	} {
		if got := Split(c.l, c.x); !slices.Equal(got, c.want) {
			t.Errorf("Split(%v, %v) = %v, not %v", c.l, c.x, got, c.want)
		}
	}
}

// What the chapter says of the bytes of a set, held against the bytes one by one.
func TestPlacesOfAllSmall(t *testing.T) {
	for _, l := range normals() {
		all := bytesOf(l)
		if Size(l) != len(all) {
			t.Fatalf("Size(%v) = %d", l, Size(l))
		}
		for at := -2; at <= most+2; at++ {
			want, fit := 0, at >= 0 && at < len(all)
			if fit {
				want = all[at]
			}
			if got, ok := Outer(l, at); got != want || ok != fit {
				t.Fatalf("Outer(%v, %d) = %d, %v", l, at, got, ok)
			}
			below, in := slices.BinarySearch(all, at)
			if got, ok := Inner(l, at); got != below || ok != in {
				t.Fatalf("Inner(%v, %d) = %d, %v", l, at, got, ok)
			}
		}
	}
}

func TestTextOfAllSmall(t *testing.T) {
	const whole = "abcdefgh"
	for _, l := range normals() {
		for n := range len(whole) + 1 {
			s := whole[:n]
			var want []byte
			for _, at := range bytesOf(l) {
				if at < n {
					want = append(want, s[at])
				}
			}
			if got := Text(s, l); got != string(want) {
				t.Fatalf("Text(%q, %v) = %q, not %q", s, l, got, want)
			}
		}
	}
}

func TestSplitOfAllSmall(t *testing.T) {
	for _, l := range normals() {
		for from := -2; from <= most+1; from++ {
			for to := -2; to <= most+1; to++ {
				x := api.Range{From: from, To: to}
				var want []int
				for _, at := range bytesOf([]api.Range{x}) {
					if k, ok := Outer(l, at); ok {
						want = append(want, k)
					}
				}
				got := Split(l, x)
				if !slices.Equal(got, runs(want)) || got != nil && len(got) == 0 {
					t.Fatalf("Split(%v, %v) = %v, not %v", l, x, got, runs(want))
				}
			}
		}
	}
}

// Inner undoes Outer, which rises; Text's byte at is the byte Outer(at) of the text.
func TestInnerUndoesOuter(t *testing.T) {
	const s = "abcdefgh"
	for _, l := range slices.Concat(normals(), wide()) {
		ahead := -1
		for _, at := range []int{0, 1, 2, 3, 4, 5, 6, math.MaxInt / 2, math.MaxInt - 3, math.MaxInt - 1} {
			k, ok := Outer(l, at)
			if ok != (at < Size(l)) {
				t.Fatalf("Outer(%v, %d) = %d, %v", l, at, k, ok)
			}
			if !ok {
				continue
			}
			if k <= ahead || !has(l, k) {
				t.Fatalf("Outer(%v, %d) = %d, ahead of it %d", l, at, k, ahead)
			}
			ahead = k
			if back, in := Inner(l, k); back != at || !in {
				t.Fatalf("Inner(%v, %d) = %d, %v, not %d", l, k, back, in, at)
			}
			if k < len(s) && Text(s, l)[at] != s[k] {
				t.Fatalf("Text(%q, %v) = %q, at %d not %q", s, l, Text(s, l), at, s[k])
			}
		}
	}
}

// Each set with Outer's bytes of a part and of the rest is whole again.
func TestSplitOfGreat(t *testing.T) {
	for _, l := range wide() {
		size := Size(l)
		for _, cut := range []int{0, 1, 2, size / 2, size - 1, size} {
			a := Split(l, api.Range{From: math.MinInt, To: cut})
			b := Split(l, api.Range{From: cut, To: math.MaxInt})
			if !sorted(a) || !sorted(b) || Meet(a, b) != nil || !slices.Equal(Join(a, b), l) || Size(a) != min(cut, size) {
				t.Fatalf("Split(%v) at %d: %v, %v", l, cut, a, b)
			}
		}
	}
}

// Ranges that are not of the normal form have no promise but that the calls end.
func TestNoRangesPanic(t *testing.T) {
	for _, l := range slices.Concat(lists(great(), 2), lists(small(), 2)) {
		Size(l)
		Text("abc", l)
		for _, at := range great() {
			Outer(l, at)
			Inner(l, at)
			Split(l, api.Range{From: at, To: math.MaxInt})
			Split(l, api.Range{From: math.MinInt, To: at})
		}
	}
}

// The arguments are out of order and have room behind them, so that a call that sorts or grows them in place is seen.
func TestArgumentsStay(t *testing.T) {
	room := of(5, 7, -1, 3, 3, 4, 9, 9, 70, 71)
	a, b := room[:4], of(8, 2, 6, 9, 0, 1)
	roomWas, bWas := slices.Clone(room), slices.Clone(b)
	l := of(1, 4, 5, 7)
	lWas := slices.Clone(l)
	for _, got := range [][]api.Range{Norm(a), Join(a, b), Meet(a, b), Less(a, b), Norm(l), Join(l, nil), Join(nil, l), Meet(l, l), Less(l, nil), Split(l, api.Range{From: 0, To: 9})} {
		for i := range got {
			got[i] = api.Range{From: 77, To: 78}
		}
	}
	Fit(a)
	Size(l)
	Text("abcdefgh", l)
	Outer(l, 3)
	Inner(l, 3)
	if !slices.Equal(room, roomWas) || !slices.Equal(b, bWas) || !slices.Equal(l, lWas) {
		t.Errorf("arguments have changed: %v, %v, %v", room, b, l)
	}
}

// The iterators may be left early, as any loop may.
func TestIteratorsAreLeft(t *testing.T) {
	count := 0
	for range borders(of(1, 3, 5, 7), of(2, 6)) {
		count++
		break
	}
	for range parts(of(1, 3, 5, 7)) {
		count++
		break
	}
	if count != 2 {
		t.Errorf("%d steps, not 2", count)
	}
}

func TestBordersAreHandedOutOnce(t *testing.T) {
	var places []int
	var what []sides
	for at, in := range borders(of(1, 4, 2, 3, 4, 6), of(3, 4, -2, 1)) {
		places = append(places, at)
		what = append(what, in)
	}
	want := []sides{{b: true}, {a: true}, {a: true}, {a: true, b: true}, {a: true}, {}}
	if !slices.Equal(places, []int{0, 1, 2, 3, 4, 6}) || !slices.Equal(what, want) {
		t.Errorf("borders: %v, %v", places, what)
	}
}
