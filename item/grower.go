package item

import (
	"iter"
	"slices"

	"bramble/api"
)

// core is an item but for its Look.
type core struct {
	prod int
	dot  int
}

// start is a symbol that begins, and a terminal ahead of which it may end.
type start struct {
	sym  int
	look int
}

// grower is a set of items that grows by what they begin with. Of a great grammar's items many begin with the same: what was begun is kept, so that nothing is begun twice.
type grower struct {
	*view
	in    map[api.Lr]struct{}
	list  []api.Lr
	cores map[core]struct{}
	begun map[start]struct{}
}

func newGrower(v *view) *grower {
	return &grower{view: v, in: map[api.Lr]struct{}{}, cores: map[core]struct{}{}, begun: map[start]struct{}{}}
}

// put puts an item into the set, and at the end of its list, unless it is there.
func (g *grower) put(x api.Lr) {
	if isNew(g.in, x) {
		g.list = append(g.list, x)
	}
}

// grown is the items of the set, in order, when nothing is left that they begin with.
func (g *grower) grown() []api.Lr {
	for at := 0; at < len(g.list); at++ {
		x := g.list[at]
		sym, ok := Next(g.Flat, x)
		if !ok || len(g.prods[sym]) == 0 {
			continue
		}
		for look := range g.looks(x) {
			g.begin(start{sym, look})
		}
	}
	slices.SortFunc(g.list, order)
	return g.list
}

// begin puts a symbol's productions into the set.
func (g *grower) begin(s start) {
	if !isNew(g.begun, s) {
		return
	}
	for _, prod := range g.prods[s.sym] {
		g.put(api.Lr{Prod: prod, Look: s.look})
	}
}

// looks hands out the terminals ahead of which an item's Next may end: those that begin what stands behind it, and, if all of that can be empty, the item's Look. The former are handed out for the first of all items that differ by their Looks alone.
func (g *grower) looks(x api.Lr) iter.Seq[int] {
	return func(yield func(int) bool) {
		fresh := isNew(g.cores, core{x.Prod, x.Dot})
		for _, i := range right(g.Flat, x.Prod)[x.Dot+1:] {
			if fresh && !yieldAll(g.first[i.Sym], yield) || !g.empty[i.Sym] {
				return
			}
		}
		yield(x.Look)
	}
}

// yieldAll hands out numbers, and tells whether more are asked for.
func yieldAll(l []int, yield func(int) bool) bool {
	for _, n := range l {
		if !yield(n) {
			return false
		}
	}
	return true
}

// isNew puts a key among those that were met, and tells whether it was not there.
func isNew[K comparable](met map[K]struct{}, k K) bool {
	had := len(met)
	met[k] = struct{}{}
	return len(met) > had
}
