package sample

import "bramble/api"

// Part is a part of a rule that is drawn: of kinds within one another, at most so deep, with leaves in the innermost ones.
func Part(seed *Seed, depth int, leaf func() api.Gx) api.Gx {
	if depth == 0 || seed.Below(4) == 0 {
		return leaf()
	}
	x := api.Gx{Op: api.GxCat + seed.Below(api.NumGxs-api.GxCat)}
	many := 1
	switch x.Op {
	case api.GxCat, api.GxAlt:
		many = 2 + seed.Below(2)
	case api.GxField, api.GxAlias:
		x.Name = []string{"f", "g", "a"}[seed.Below(3)]
	case api.GxPrec:
		x.Num = seed.Below(9) - 4
	}
	for range many {
		x.Subs = append(x.Subs, Part(seed, depth-1, leaf))
	}
	return x
}

// Roomy is a part of a rule in memory of its own, with room behind its lists, so that one that grows in place is seen.
func Roomy(x api.Gx) api.Gx {
	subs := make([]api.Gx, 0, len(x.Subs)+2)
	for _, sub := range x.Subs {
		subs = append(subs, Roomy(sub))
	}
	x.Subs = subs
	return x
}

// RoomStays tells whether what lies behind the lists is as Roomy left it.
func RoomStays(x api.Gx) bool {
	for _, behind := range x.Subs[len(x.Subs):cap(x.Subs)] {
		if behind.Op != 0 || behind.Name != "" || behind.Num != 0 || behind.Subs != nil {
			return false
		}
	}
	for _, sub := range x.Subs {
		if !RoomStays(sub) {
			return false
		}
	}
	return true
}

// Endless is parts of rules, of each kind and beside these, that hold themselves, lie far too deep, or hold so many others that none could go through them all.
func Endless() []api.Gx {
	var all []api.Gx
	for op := -1; op <= api.NumGxs; op++ {
		loop := make([]api.Gx, 2)
		loop[0] = api.Gx{Op: op, Name: "n", Subs: loop}
		loop[1] = api.Gx{Op: op, Name: "n", Subs: loop[:1]}
		deep, wide := api.Gx{Op: api.GxName, Name: "a"}, api.Gx{Op: api.GxName, Name: "a"}
		for range 1 << 16 {
			deep = api.Gx{Op: op, Name: "n", Subs: []api.Gx{deep}}
		}
		for range 60 {
			wide = api.Gx{Op: op, Name: "n", Subs: []api.Gx{wide, wide}}
		}
		all = append(all, loop[0], loop[1], deep, wide)
	}
	return all
}
