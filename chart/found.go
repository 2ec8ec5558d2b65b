package chart

// place is where something is looked for: a symbol (dot -1), or the items of a production from a dot on, from one token up to another.
type place struct {
	of   int
	dot  int
	from int
	to   int
}

// ofSymbol is the dot of places at which a symbol is looked for.
const ofSymbol = -1

// found is what there is at a place: how many ways, what the best one counts, of how many parts it is, and what is to be known to make it: of a symbol its production, of items where the first one ends.
type found struct {
	ways  int
	count int
	parts int
	pick  int
}

// or is what is found in one way or another one. Where both count alike the first one stays, so that what is ahead is asked first.
func (a found) or(b found, most int) found {
	if b.ways == 0 {
		return a
	}
	both := a
	if a.ways == 0 || b.count > a.count {
		both = b
	}
	both.ways = plus(a.ways, b.ways, most)
	return both
}

// and is what is found of items: what there is of the first one, with what there is of those behind it.
func (a found) and(b found, most int) found {
	if a.ways == 0 || b.ways == 0 {
		return found{}
	}
	return found{
		ways:  times(a.ways, b.ways, most),
		count: a.count + b.count,
		parts: plus(a.parts, b.parts, mostParts+1),
	}
}

// plus is a sum, but most, if it is more; both are at most that.
func plus(a, b, most int) int {
	if a > most-b {
		return most
	}
	return a + b
}

// times is a product, but most, if it is more; both are at least 1.
func times(a, b, most int) int {
	if a > most/b {
		return most
	}
	return a * b
}
