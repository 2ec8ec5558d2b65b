package arena

import "bramble/api"

// held is what a slot holds, as a key. The places of its kids are a text, as a list can't be a key.
type held struct {
	kind, field  string
	named        bool
	from, to     int
	bad          int
	placesOfKids string
}

func heldOf(n api.Node, kids []int) held {
	var places []byte
	for _, kid := range kids {
		places = append(places, byte(kid>>8), byte(kid)) // enough for 4096 of them
	}
	return held{n.Kind, n.Field, n.Named, n.From, n.To, n.Bad, string(places)}
}

// placesOf tells of what live slots hold where it is; false, if the arena is not fit, its trees of at most so many nodes.
func placesOf(a api.Arena, most int) (map[held]int, bool) {
	if !framed(a, most) {
		return nil, false
	}
	places := make(map[held]int, len(a.Slots))
	for place, slot := range a.Slots {
		if slot.Refs > 0 {
			places[heldOf(slot.Node, slot.Kids)] = place
		}
	}
	return places, len(places) == Live(a)
}

// builder is an arena that is worked on, in memory of its own, and where what it holds is.
type builder struct {
	api.Arena
	places map[held]int
}

// open is a builder of an arena; false, if that can't be.
func open(a api.Arena) (builder, bool) {
	places, ok := placesOf(a, mostNodes)
	if !ok {
		return builder{}, false
	}
	return builder{Arena: copied(a), places: places}, true
}

// lay lays a tree that ends, its places counted from some other one on: in which slot it is; false, if there is no room for it all.
func (b *builder) lay(n api.Node, from int) (int, bool) {
	var kids []int
	for _, kid := range n.Kids {
		place, ok := b.lay(kid, n.From)
		if !ok {
			return 0, false
		}
		kids = append(kids, place)
	}
	// int wraps round by itself, here and where a tree is read.
	n.From -= from
	n.To -= from
	n.Kids = nil
	key := heldOf(n, kids)
	if place, there := b.places[key]; there {
		return place, true
	}
	place, ok := b.take()
	if !ok {
		return 0, false
	}
	b.Slots[place] = api.Slot{Node: n, Kids: kids, Next: -1}
	b.places[key] = place
	for _, kid := range kids {
		b.Slots[kid].Refs++
	}
	return place, true
}

// take is the slot that is next to be laid in; false, if there is none.
func (b *builder) take() (int, bool) {
	if b.Free >= 0 {
		place := b.Free
		b.Free = b.Slots[place].Next
		return place, true
	}
	if len(b.Slots) == api.MaxSlots {
		return 0, false
	}
	b.Slots = append(b.Slots, api.Slot{})
	return len(b.Slots) - 1, true
}

// release takes a Ref from a slot. One that has none any more is forgotten ahead of its kids: so the order of the free ones is told.
func (b *builder) release(place int) {
	slot := b.Slots[place]
	if slot.Refs > 1 {
		b.Slots[place].Refs--
		return
	}
	delete(b.places, heldOf(slot.Node, slot.Kids))
	b.Slots[place] = api.Slot{Next: b.Free}
	b.Free = place
	for _, kid := range slot.Kids {
		b.release(kid)
	}
}
