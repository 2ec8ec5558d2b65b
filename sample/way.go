package sample

import (
	"slices"

	"bramble/api"
)

// Round tells whether a symbol of a plain grammar comes of itself alone: of such a one there are ways without end, and flat.Make makes none.
func Round(f api.Flat) bool {
	empty := emptyOnes(f)
	leads := make([][]bool, len(empty)) // whether a symbol leads to another one alone, by productions one after another
	for sym := range leads {
		leads[sym] = make([]bool, len(empty))
	}
	for _, p := range f.Prods {
		for i, item := range p.Right {
			if allEmpty(empty, p.Right[:i]) && allEmpty(empty, p.Right[i+1:]) {
				leads[p.Left][item.Sym] = true
			}
		}
	}
	for by := range leads {
		for from := range leads {
			for to := range leads {
				leads[from][to] = leads[from][to] || leads[from][by] && leads[by][to]
			}
		}
	}
	for sym := range leads {
		if leads[sym][sym] {
			return true
		}
	}
	return false
}

// emptyOnes tells of each symbol whether it comes of nothing.
func emptyOnes(f api.Flat) []bool {
	empty := make([]bool, len(f.Terms)+len(f.Nons))
	for range f.Prods {
		for _, p := range f.Prods {
			empty[p.Left] = empty[p.Left] || allEmpty(empty, p.Right)
		}
	}
	return empty
}

func allEmpty(empty []bool, l []api.Item) bool {
	return !slices.ContainsFunc(l, func(i api.Item) bool { return !empty[i.Sym] })
}

// Way is a way of a symbol that is drawn, from 0 on, and the row of its tokens: so many productions within one another are drawn, behind them the lowest ones are taken. False, if there is none.
func Way(seed *Seed, f api.Flat, sym, deep int) (api.Der, []int, bool) {
	heights := heightsOf(f)
	if heights[sym] == 0 {
		return api.Der{}, nil, false
	}
	var row []int
	d := drawWay(seed, f, heights, &row, sym, deep)
	return d, row, true
}

// heightsOf is how high the lowest way of each symbol is; 0: there is none.
func heightsOf(f api.Flat) []int {
	heights := make([]int, len(f.Terms)+len(f.Nons))
	for term := range f.Terms {
		heights[term] = 1
	}
	for range f.Nons {
		for _, p := range f.Prods {
			if high := heightOf(heights, p); high > 0 && (heights[p.Left] == 0 || high < heights[p.Left]) {
				heights[p.Left] = high
			}
		}
	}
	return heights
}

// heightOf is how high the lowest way by a production is; 0: there is none.
func heightOf(heights []int, p api.Prod) int {
	high := 1
	for _, item := range p.Right {
		if heights[item.Sym] == 0 {
			return 0
		}
		high = max(high, 1+heights[item.Sym])
	}
	return high
}

func drawWay(seed *Seed, f api.Flat, heights []int, row *[]int, sym, deep int) api.Der {
	d := api.Der{Sym: sym, Prod: -1, From: len(*row)}
	if sym < len(f.Terms) {
		*row = append(*row, sym)
		d.To = len(*row)
		return d
	}
	var all []int
	for i, p := range f.Prods {
		if high := heightOf(heights, p); p.Left == sym && high > 0 && (deep > 0 || high == heights[sym]) {
			all = append(all, i)
		}
	}
	d.Prod = all[seed.Below(len(all))]
	for _, item := range f.Prods[d.Prod].Right {
		d.Kids = append(d.Kids, drawWay(seed, f, heights, row, item.Sym, deep-1))
	}
	d.To = len(*row)
	return d
}

// AnyWay is a way of at most so many parts that is drawn, with numbers that are all small, some of them below 0: few of them are ways of any row.
func AnyWay(seed *Seed, parts int) api.Der {
	d := api.Der{
		Sym:  seed.Below(5) - 1,
		Prod: seed.Below(7) - 2,
		From: seed.Below(4) - 1,
		To:   seed.Below(4) - 1,
		Junk: []int{0, 0, 0, 0, 1, 2, -1}[seed.Below(7)],
	}
	for parts--; parts > 0 && seed.Below(4) > 0; {
		kid := AnyWay(seed, 1+seed.Below(parts))
		d.Kids = append(d.Kids, kid)
		parts -= len(PartsOf(&kid))
	}
	return d
}

// OtherWay is a way, in memory of its own, of which some parts that are drawn are others in one thing each.
func OtherWay(seed *Seed, d api.Der) api.Der {
	d = RoomyWay(d)
	parts := PartsOf(&d)
	some := func() *api.Der { return parts[seed.Below(len(parts))] }
	some().To += seed.Below(3) - 1
	some().Prod += seed.Below(3) - 1
	some().Sym += seed.Below(3) - 1
	some().From += max(0, seed.Below(4)-2)
	some().Junk += max(0, seed.Below(4)-2)
	if one := some(); len(one.Kids) > 0 && seed.Below(4) == 0 {
		one.Kids = one.Kids[:len(one.Kids)-1]
	}
	return d
}

// PartsOf is the parts of a way, each ahead of its kids, where they lie: a test can change one of them alone.
func PartsOf(d *api.Der) []*api.Der {
	all := []*api.Der{d}
	for i := range d.Kids {
		all = append(all, PartsOf(&d.Kids[i])...)
	}
	return all
}

// RoomyWay is a way in memory of its own, with room behind its lists, so that one that grows in place is seen.
func RoomyWay(d api.Der) api.Der {
	kids := make([]api.Der, 0, len(d.Kids)+2)
	for _, kid := range d.Kids {
		kids = append(kids, RoomyWay(kid))
	}
	d.Kids = kids
	return d
}

// WayRoomStays tells whether what lies behind the lists is as RoomyWay left it.
func WayRoomStays(d api.Der) bool {
	for _, x := range d.Kids[len(d.Kids):cap(d.Kids)] {
		if x.Sym != 0 || x.Prod != 0 || x.From != 0 || x.To != 0 || x.Junk != 0 || x.Kids != nil {
			return false
		}
	}
	for _, kid := range d.Kids {
		if !WayRoomStays(kid) {
			return false
		}
	}
	return true
}

// SpoilWay writes over all kids of a way, and behind them, so that who shares their memory shows it.
func SpoilWay(d api.Der) {
	for _, kid := range d.Kids {
		SpoilWay(kid)
	}
	l := d.Kids[:cap(d.Kids)]
	for i := range l {
		l[i] = api.Der{Sym: 77}
	}
}

// EndlessWays is ways that hold themselves, lie far too deep, or hold so many others that none could go through them all: each is of the symbol 1 by the production 0, from 0 to 0.
func EndlessWays() []api.Der {
	one := api.Der{Sym: 1}
	loop := make([]api.Der, 2)
	for i := range loop {
		loop[i] = one
		loop[i].Kids = loop[:2-i]
	}
	far := make([]api.Der, 3000)
	for i := range far {
		far[i] = one
	}
	far[2999].Kids = far
	deep, wide := one, one
	for range 1 << 17 {
		deep = api.Der{Sym: 1, Kids: []api.Der{deep}}
	}
	for range 60 {
		wide = api.Der{Sym: 1, Kids: []api.Der{wide, wide}}
	}
	return []api.Der{loop[0], loop[1], far[2999], deep, wide}
}
