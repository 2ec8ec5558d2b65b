package arena

import (
	"math"
	"testing"

	"bramble/api"
	"bramble/sample"
)

// P20.1: which arenas are fit.
func TestFit(t *testing.T) {
	for _, c := range []struct {
		what, arena string
		want        bool
	}{
		{"nothing", "-1 | |", true},
		{"one slot", "-1 | 0 | a*1", true},
		{"a node that has nothing", "-1 | 0 | *1", true},
		{"a node whose ends can't be those of a text", "-1 | 0 | a@3,-2*1", true},
		{"a tree", "-1 | 0 | a*1:1,2 b*1 c*1", true},
		{"a tree, the root last", "-1 | 2 | b*1 c*1 a*1:1,0", true},
		{"a kid twice", "-1 | 0 | a*1:1,1 b*2", true},
		{"a kid of two", "-1 | 0 | a*1:1,2 b*1:3 c*1:3 d*2", true},
		{"a handle of what is within another one", "-1 | 0 1 | a*1:1 b*2", true},
		{"a handle twice", "-1 | 0 0 0 | a*3", true},
		{"handles that are released", "-1 | -1 0 -1 | a*1", true},
		{"handles that are all released", "-1 | -1 -1 |", true},

		{"Refs below 0", "-1 | | a*-1", false},
		{"Refs below 0 of what has nothing", "-1 | | *-1", false},
		{"Refs below 0, and in the row of free ones", "0 | | *-1", false},
		{"Refs far below 0", "-1 | 0 | a*-9223372036854775808", false},
		{"a handle too few", "-1 | 0 0 | a*1", false},
		{"a handle too many", "-1 | 0 | a*2", false},
		{"far too many", "-1 | 0 | a*9223372036854775807", false},
		{"a kid too few", "-1 | 0 | a*1:1,1 b*1", false},
		{"a kid too many", "-1 | 0 | a*1:1 b*2", false},
		{"a kid and a handle, one counted", "-1 | 0 1 | a*1:1 b*1", false},
		{"live, and nothing refers to it", "-1 | 0 | a*1 b*1", false},
		{"one too many of the first, too few of the last one", "-1 | 0 1 | a*2 b*0", false},
		{"a released handle counted for the last slot", "-1 | 0 -1 | a*2", false},

		{"one free slot", "0 | | >-1", true},
		{"free ones, rising", "0 | | >1 >2 >-1", true},
		{"free ones, not rising", "1 | | >-1 >2 >0", true},
		{"free ones between live ones", "3 | 0 2 | a*1 >-1 b*1 >1", true},
		{"a free one that holds a Kind", "0 | | a>-1", false},
		{"one that holds a From", "0 | | @1,0>-1", false},
		{"one that holds a To", "0 | | @0,1>-1", false},
		{"one that has Kids", "1 | 0 | a*1 :0>-1", false},
		{"one that has Kids, and these count", "1 | 0 | a*2 :0>-1", false},
		{"one that has itself", "0 | | :0>-1", false},
		{"a Next behind all", "0 | | >1", false},
		{"a Next far behind all", "0 | | >9223372036854775807", false},
		{"a Next below -1", "0 | | >-2", false},
		{"a Next far below", "0 | | >-9223372036854775808", false},
		{"a Next that leads to a live one", "1 | 0 | a*1 >0", false},
		{"a Next that leads to a live one behind", "0 | 1 | >1 a*1", false},
		{"a Next that leads to itself", "0 | | >0", false},
		{"Nexts that lead round", "0 | | >1 >0", false},
		{"Nexts that lead round, not to the first", "0 | | >1 >2 >1", false},
		{"Nexts that lead round, and miss one", "0 | | >1 >0 >-1", false},
		{"a Next that ends early", "0 | | >-1 >-1", false},
		{"a Next that passes one over", "0 | | >2 >2 >-1", false},

		{"Free that is none", "1 | | >-1", false},
		{"Free that is none, of no slots", "0 | |", false},
		{"Free far behind all", "9223372036854775807 | | >-1", false},
		{"Free below -1", "-2 | |", false},
		{"Free below -1, and a free one", "-2 | | >-1", false},
		{"Free far below", "-9223372036854775808 | |", false},
		{"Free that misses a free one", "-1 | | >-1", false},
		{"Free that misses the first one", "1 | | >1 >-1", false},
		{"Free that is live", "0 | 0 | a*1", false},
		{"Free that is live, and leads on", "0 | 0 | a*1>1 >-1", false},

		{"a live one's Next 0", "-1 | 0 | a*1>0", false},
		{"a live one's Next below -1", "-1 | 0 | a*1>-2", false},
		{"a live one's Next a free one", "1 | 0 | a*1>1 >-1", false},
		{"the last live one's Next", "-1 | 0 | a*1:1 b*1>1", false},

		{"Kids that are no slots", "-1 | 0 | a*1:1", false},
		{"Kids that are no slots, behind others", "-1 | 0 | a*1:1,2 b*1", false},
		{"Kids far behind all", "-1 | 0 | a*1:9223372036854775807", false},
		{"Kids below 0", "-1 | 0 | a*1:-1", false},
		{"Kids below 0, behind others", "-1 | 0 | a*1:1,-1 b*1", false},
		{"Kids far below 0", "-1 | 0 | a*1:-9223372036854775808", false},
		{"Kids that are free", "1 | 0 | a*1:1 >-1", false},
		{"Kids that are free, behind others", "2 | 0 | a*1:1,2 b*1 >-1", false},

		{"two that are alike", "-1 | 0 1 | a*1 a*1", false},
		{"two that are alike, with Kids", "-1 | 0 1 | a*1:2 a*1:2 b*2", false},
		{"two that are alike, one between", "-1 | 0 1 2 | a@1,2*1 a*1 a@1,2*1", false},
		{"two kids that are alike", "-1 | 0 | a*1:1,2 b*1 b*1", false},
		{"two that have nothing", "-1 | 0 1 | *1 *1", false},
		{"a live one as a free one is", "1 | 0 | *1 >-1", true},
		{"two that differ in Kind", "-1 | 0 1 | a*1 b*1", true},
		{"two that differ in From", "-1 | 0 1 | a@1,0*1 a*1", true},
		{"two that differ in To", "-1 | 0 1 | a@0,1*1 a*1", true},
		{"two that differ in Kids", "-1 | 0 1 | a*1:2 a*1 b*1", true},
		{"two that differ in the order of Kids", "-1 | 0 1 | a*1:2,3 a*1:3,2 b*2 c*2", true},
		{"two that differ in how often a kid is there", "-1 | 0 1 | a*1:2,2 a*1:2 b*3", true},
		{"two with Refs that differ, alike", "-1 | 0 1 0 | a*2 a*1", false},

		{"a slot within itself", "-1 | 0 | a*2:0", false},
		{"a slot within itself, behind others", "-1 | 0 | a*2:1,0 b*1", false},
		{"a slot within itself over another one", "-1 | 0 | a*2:1 b*1:0", false},
		{"a slot within itself over others", "-1 | 0 | a*2:1 b*1:2 c*1:3 d*1:0", false},
		{"a slot within itself below a root", "-1 | 0 | a*1:1 b*2:1", false},
		{"a slot within itself over another one, below a root", "-1 | 0 | a*1:1 b*2:2 c*1:1", false},
		{"a slot within itself, and no root's", "-1 | | a*1:0", false},
		{"within no root", "-1 | | a*1:1 b*1:0", false},
		{"within no root, beside a root", "-1 | 0 | a*1 b*1:2 c*1:1", false},
		{"within a released root", "-1 | -1 | a*1", false},

		{"Roots below -1", "-1 | -2 |", false},
		{"Roots far below", "-1 | -9223372036854775808 |", false},
		{"Roots below -1, behind others", "-1 | 0 -2 | a*1", false},
		{"Roots of no slot", "-1 | 0 |", false},
		{"Roots of no slot, behind others", "-1 | 0 1 | a*1", false},
		{"Roots far behind all", "-1 | 9223372036854775807 |", false},
		{"Roots of a free one", "0 | 0 | >-1", false},
		{"Roots of a free one, behind others", "1 | 0 1 | a*1 >-1", false},
	} {
		a := sample.ArenaOf(c.arena)
		if got := Fit(a); got != c.want || fitByWords(a) != c.want {
			t.Errorf("%s: %v", c.what, got)
		}
	}
}

// P20.1: a slot has no Kids within its node, and a free one nothing else.
func TestFitOfNodes(t *testing.T) {
	live, free := sample.ArenaOf("-1 | 0 | *1"), sample.ArenaOf("0 | | >-1")
	for _, n := range []api.Node{{Kind: "a"}, {Named: true}, {Field: "f"}, {From: math.MinInt}, {To: math.MaxInt}, {Bad: -1}, {Bad: api.BadMiss}} {
		live.Slots[0].Node, free.Slots[0].Node = n, n
		if !Fit(live) || Fit(free) || !fitByWords(live) || fitByWords(free) {
			t.Errorf("%v: a live one %v, a free one %v", n, Fit(live), Fit(free))
		}
		n.Kids = []api.Node{{}}
		if live.Slots[0].Node = n; Fit(live) || fitByWords(live) {
			t.Errorf("%v is fit", n)
		}
	}
	live.Slots[0].Node, free.Slots[0].Node = api.Node{}, api.Node{Kids: []api.Node{{}}}
	if !Fit(live) || Fit(free) || fitByWords(free) {
		t.Error("a node without Kids, and one with")
	}
	if !Fit(sample.RoomyArena(live)) || !Fit(sample.RoomyArena(sample.ArenaOf("0 | | >-1"))) || !Fit(api.Arena{Free: -1, Slots: []api.Slot{}, Roots: []int{}}) {
		t.Error("an empty list is none")
	}
}

// P20.1: two live slots that differ in one thing alone.
func TestFitOfAlike(t *testing.T) {
	a := sample.ArenaOf("-1 | 0 1 | a*1 a*1")
	for _, n := range []api.Node{{Kind: "ab"}, {Kind: "a", Named: true}, {Kind: "a", Field: "a"}, {Kind: "a", From: 1 << 40}, {Kind: "a", To: -1}, {Kind: "a", To: 1 << 40}, {Kind: "a", Bad: 1}, {Kind: "a", Bad: 1 << 40}, {Kind: "", Field: "a"}, {Kind: "a", From: 0, To: 1}, {Kind: "a", From: 1}} {
		for place := range 2 {
			b := sample.RoomyArena(a)
			if b.Slots[place].Node = n; !Fit(b) || !fitByWords(b) {
				t.Errorf("%v: not fit", b)
			}
			if b.Slots[1-place].Node = n; Fit(b) || fitByWords(b) {
				t.Errorf("%v: fit", b)
			}
		}
	}
}

// P20.1: just 4096 slots and handles, and one more.
func TestFitOfMany(t *testing.T) {
	for slots, want := range map[int]bool{4095: true, 4096: true, 4097: false, 9000: false} {
		live, free := api.Arena{Free: -1}, api.Arena{Free: slots - 1}
		for i := range slots {
			live.Slots = append(live.Slots, api.Slot{Node: api.Node{To: i}, Refs: 1, Next: -1, Kids: kidBefore(i)})
			free.Slots = append(free.Slots, api.Slot{Next: i - 1})
		}
		live.Roots = []int{slots - 1}
		if Fit(live) != want || Fit(free) != want {
			t.Errorf("%d slots, live: %v, free: %v", slots, Fit(live), Fit(free))
		}
	}
	for handles, want := range map[int]bool{4095: true, 4096: true, 4097: false, 9000: false} {
		a, gone := sample.ArenaOf("-1 | | a"), api.Arena{Free: -1}
		a.Slots[0].Refs = handles
		a.Roots = make([]int, handles)
		for range handles {
			gone.Roots = append(gone.Roots, -1)
		}
		if Fit(a) != want || Fit(gone) != want || fitByWords(a) != want {
			t.Errorf("%d handles: %v, released: %v", handles, Fit(a), Fit(gone))
		}
	}
}

// kidBefore is the slot ahead of one, but of the first.
func kidBefore(place int) []int {
	if place == 0 {
		return nil
	}
	return []int{place - 1}
}

// P20.1: a handle's tree of just 5000 nodes, and of more.
func TestFitOfGreatTrees(t *testing.T) {
	for kids, want := range map[int]bool{4998: true, 4999: true, 5000: false, 5001: false, 20000: false} {
		a := sample.ArenaOf("-1 | 1 | b a*1")
		a.Slots[0].Refs = kids
		a.Slots[1].Kids = make([]int, kids)
		if Fit(a) != want || fitByWords(a) != want {
			t.Errorf("a node with %d kids: %v", kids, !want)
		}
		// What is within another one's tree, too great or not, as a handle's, too.
		a.Roots = append(a.Roots, 0)
		if a.Slots[0].Refs++; Fit(a) != want {
			t.Errorf("a node with %d kids, and one of them alone: %v", kids, !want)
		}
	}
	for _, c := range []struct {
		what  string
		kids  []int // of each slot so many, all of them the one ahead
		nodes int
		want  bool
	}{
		{"two and two, 2^12 - 1", []int{0, 2, 2, 2, 2, 2, 2, 2, 2, 2, 2, 2}, 4095, true},
		{"two and two, 2^13 - 1", []int{0, 2, 2, 2, 2, 2, 2, 2, 2, 2, 2, 2, 2}, 8191, false},
		{"three, then 1666", []int{0, 2, 1666}, 4999, true},
		{"one above three, 1666 times", []int{0, 2, 1666, 1}, 5000, true},
		{"two above three, 1666 times", []int{0, 2, 1666, 1, 1}, 5001, false},
		{"two such", []int{0, 2, 1666, 2}, 9999, false},
		{"70 times two", append([]int{0}, twos(70)...), 0, false},
	} {
		a := api.Arena{Free: -1, Roots: []int{len(c.kids) - 1}}
		for place, kids := range c.kids {
			refs := 1
			if place < len(c.kids)-1 {
				refs = c.kids[place+1]
			}
			slot := api.Slot{Node: api.Node{To: place}, Refs: refs, Next: -1}
			for range kids {
				slot.Kids = append(slot.Kids, place-1)
			}
			a.Slots = append(a.Slots, slot)
		}
		if Fit(a) != c.want || fitByWords(a) != c.want {
			t.Errorf("%s: %v", c.what, !c.want)
		}
	}
}

func twos(many int) []int {
	var l []int
	for range many {
		l = append(l, 2)
	}
	return l
}

// P20.1: drawn arenas, with nothing and with some things bent.
func TestDrawnFit(t *testing.T) {
	seed := sample.Seed(200)
	fit := 0
	for range 4000 {
		a := sample.FitArena(&seed, 8)
		if !Fit(a) || !fitByWords(a) {
			t.Fatalf("%v is not fit", a)
		}
		for range 1 + seed.Below(6) {
			a = sample.BentArena(&seed, a)
			got := Fit(a)
			if got != fitByWords(a) {
				t.Fatalf("%v: %v", a, got)
			}
			if got {
				fit++
			}
		}
	}
	if fit < 200 {
		t.Errorf("only %d of those that are bent are fit", fit)
	}
}

// smallSlots is slots of any small numbers.
func smallSlots() []api.Slot {
	var all []api.Slot
	for _, kind := range []string{"", "a"} {
		for _, kids := range [][]int{nil, {0}, {1}, {1, 1}, {2}, {-1}} {
			for refs := -1; refs <= 3; refs++ {
				for next := -1; next <= 1; next++ {
					all = append(all, api.Slot{Node: api.Node{Kind: kind}, Kids: kids, Refs: refs, Next: next})
				}
			}
		}
	}
	return all
}

// P20.1: every arena of at most two slots and handles, of small numbers.
func TestFitOfSmall(t *testing.T) {
	slots := smallSlots()
	rows := [][]api.Slot{nil}
	for _, first := range slots {
		rows = append(rows, []api.Slot{first})
		for _, second := range slots {
			rows = append(rows, []api.Slot{first, second})
		}
	}
	fit := 0
	for _, row := range rows {
		for free := -2; free <= 1; free++ {
			for _, roots := range [][]int{nil, {-1}, {0}, {1}, {2}, {-2}, {0, 0}, {0, 1}, {1, 0}, {-1, 1}, {1, 1}} {
				a := api.Arena{Slots: row, Free: free, Roots: roots}
				got := Fit(a)
				if got != fitByWords(a) {
					t.Fatalf("%v: %v", a, got)
				}
				if got {
					fit++
				}
			}
		}
	}
	if fit < 50 {
		t.Errorf("only %d are fit", fit)
	}
}
