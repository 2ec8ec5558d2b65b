package sample

import (
	"slices"
	"strings"

	"bramble/api"
)

// TreeOf is a tree by its nodes, as in "a@0,2(b@0,1 b@1,2)": the Kind, From and To (0 and 0, if they are not told), and the Kids. What can't be read is -9.
func TreeOf(s string) api.Node {
	row, _ := treesOf(s)
	if len(row) == 0 {
		return api.Node{}
	}
	return row[0]
}

// treesOf is the trees up to a closing parenthesis, or the end, and what stands behind that.
func treesOf(s string) ([]api.Node, string) {
	var row []api.Node
	for {
		s = strings.TrimLeft(s, " ")
		if s == "" {
			return row, ""
		}
		if s[0] == ')' {
			return row, s[1:]
		}
		word := s
		if end := strings.IndexAny(s, " ()"); end >= 0 {
			word = s[:end]
		}
		s = s[len(word):]
		n := nodeOf(word)
		if strings.HasPrefix(s, "(") {
			n.Kids, s = treesOf(s[1:])
		}
		row = append(row, n)
	}
}

// nodeOf is a node by its Kind, From and To.
func nodeOf(word string) api.Node {
	kind, ends, told := strings.Cut(word, "@")
	if !told {
		return api.Node{Kind: kind}
	}
	from, to, _ := strings.Cut(ends, ",")
	return api.Node{Kind: kind, From: number(from), To: number(to)}
}

// ArenaOf is an arena by Free, Roots and Slots, as in "-1 | 0 -1 | a@0,2*1:1 b@0,1*1 >-1": of a slot the node as in TreeOf, Refs (0, if they are not told), the Kids, and Next (-1, if it is not told).
func ArenaOf(s string) api.Arena {
	free, s, _ := strings.Cut(s, "|")
	roots, slots, _ := strings.Cut(s, "|")
	a := api.Arena{Free: number(strings.TrimSpace(free))}
	for word := range strings.FieldsSeq(roots) {
		a.Roots = append(a.Roots, number(word))
	}
	for word := range strings.FieldsSeq(slots) {
		a.Slots = append(a.Slots, slotOf(word))
	}
	return a
}

func slotOf(word string) api.Slot {
	slot := api.Slot{Next: -1}
	word, next, told := strings.Cut(word, ">")
	if told {
		slot.Next = number(next)
	}
	word, kids, told := strings.Cut(word, ":")
	if told {
		for kid := range strings.SplitSeq(kids, ",") {
			slot.Kids = append(slot.Kids, number(kid))
		}
	}
	word, refs, told := strings.Cut(word, "*")
	if told {
		slot.Refs = number(refs)
	}
	slot.Node = nodeOf(word)
	return slot
}

// FitArena is an arena of at most so many slots that is drawn: fit, as chapter 20 says it.
func FitArena(seed *Seed, slots int) api.Arena {
	var a api.Arena
	for place := range seed.Below(slots + 1) {
		slot := api.Slot{Node: api.Node{Kind: []string{"", "a", "b"}[seed.Below(3)], To: place}} // so no two are alike
		for range min(place, seed.Below(4)) {
			slot.Kids = append(slot.Kids, seed.Below(place))
		}
		a.Slots = append(a.Slots, slot)
	}
	for range seed.Below(4) {
		a.Roots = append(a.Roots, seed.Below(len(a.Slots)+1)-1)
	}
	for _, root := range a.Roots {
		if root != -1 {
			refer(a, root)
		}
	}
	a.Free = freeRest(seed, a)
	return a
}

// refer counts one Ref more of a slot, and, if that is its first one, of its Kids.
func refer(a api.Arena, place int) {
	a.Slots[place].Refs++
	a.Slots[place].Next = -1
	if a.Slots[place].Refs == 1 {
		for _, kid := range a.Slots[place].Kids {
			refer(a, kid)
		}
	}
}

// freeRest frees all slots without Refs, in an order that is drawn: the first of them, or -1.
func freeRest(seed *Seed, a api.Arena) int {
	var rest []int
	for place, slot := range a.Slots {
		if slot.Refs == 0 {
			rest = slices.Insert(rest, seed.Below(len(rest)+1), place)
		}
	}
	free := -1
	for _, place := range rest {
		a.Slots[place] = api.Slot{Next: free}
		free = place
	}
	return free
}

// BentArena is an arena in memory of its own, in which one thing that is drawn is another one, or there once more or less: few are fit.
func BentArena(seed *Seed, a api.Arena) api.Arena {
	a = RoomyArena(a)
	by := []int{-2, -1, 1, 2}[seed.Below(4)]
	if len(a.Slots) == 0 || seed.Below(4) == 0 {
		if seed.Below(2) == 0 {
			a.Roots = bentList(seed, a.Roots, by)
		} else {
			a.Free += by
		}
		return a
	}
	slot := &a.Slots[seed.Below(len(a.Slots))]
	switch seed.Below(7) {
	case 0:
		slot.Refs += by
	case 1:
		slot.Next += by
	case 2:
		slot.Kids = bentList(seed, slot.Kids, by)
	case 3:
		slot.Node.Kids = append(slot.Node.Kids, api.Node{})
	case 4:
		slot.Node.To += by
	case 5:
		slot.Node = a.Slots[seed.Below(len(a.Slots))].Node
	case 6:
		*slot = a.Slots[seed.Below(len(a.Slots))]
		slot.Kids = RoomyList(slot.Kids)
	}
	return a
}

// bentList is a list with one number less, more, or in another place.
func bentList(seed *Seed, l []int, by int) []int {
	if len(l) == 0 || seed.Below(3) == 0 {
		return append(l, by+1)
	}
	at := seed.Below(len(l))
	if seed.Below(2) == 0 {
		return slices.Delete(l, at, at+1)
	}
	l[at] += by
	return l
}

// RoomyArena is an arena in memory of its own, with room behind its lists, so that one that grows in place is seen.
func RoomyArena(a api.Arena) api.Arena {
	made := api.Arena{Slots: RoomyList(a.Slots), Free: a.Free, Roots: RoomyList(a.Roots)}
	for place, slot := range a.Slots {
		made.Slots[place].Node = RoomyTree(slot.Node)
		made.Slots[place].Kids = RoomyList(slot.Kids)
	}
	return made
}

// ArenaRoomStays tells whether what lies behind the lists is as RoomyArena left it.
func ArenaRoomStays(a api.Arena) bool {
	for _, slot := range a.Slots {
		if !TreeRoomStays(slot.Node) || !roomStays(slot.Kids) {
			return false
		}
	}
	for _, behind := range a.Slots[len(a.Slots):cap(a.Slots)] {
		if !isNone(behind.Node) || behind.Kids != nil || behind.Refs != 0 || behind.Next != 0 {
			return false
		}
	}
	return roomStays(a.Roots)
}

// EndlessArenas is arenas in which one comes to no end, or only behind more steps than could ever be gone: slots that are within themselves, free ones that lead round, trees that have no end in slots.
func EndlessArenas() []api.Arena {
	all := []api.Arena{
		ArenaOf("-1 | 0 | a*2:0"),
		ArenaOf("-1 | 0 | a*2:1 b*1:0"),
		ArenaOf("-1 | 0 | a*1:1 b*2:2 c*1:1,3 d*1"),
		ArenaOf("-1 | | a*1:1 b*1:0"),
		ArenaOf("0 | | >0"),
		ArenaOf("0 | | >1 >0"),
		ArenaOf("0 | | >1 >2 >1"),
	}
	wide := ArenaOf("-1 | 59 | a*2")
	for place := range 59 {
		wide.Slots = append(wide.Slots, api.Slot{Node: api.Node{Kind: "a"}, Kids: []int{place, place}, Refs: 2, Next: -1})
	}
	wide.Slots[59].Refs = 1
	all = append(all, wide)
	for _, n := range EndlessTrees() {
		all = append(all, api.Arena{Slots: []api.Slot{{Node: n, Refs: 1, Next: -1}}, Free: -1, Roots: []int{0}}, api.Arena{Slots: []api.Slot{{Node: n, Next: -1}}})
	}
	return all
}
