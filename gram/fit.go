package gram

import "bramble/api"

// The greatest number of a GxPrec; it may stand with - ahead.
const maxPrec = 99

// hold is how firmly the parts of each kind hold together: those of a kind stand in parentheses within one that holds as firmly, or more. Of kind 0, which is none, is what a whole body stands in.
var hold = [api.NumGxs]int{
	api.GxAlt:   1,
	api.GxPrec:  2,
	api.GxCat:   3,
	api.GxAlias: 4,
	api.GxField: 5,
	api.GxStar:  6,
	api.GxPlus:  6,
	api.GxOpt:   6,
	api.GxName:  7,
	api.GxLit:   7,
}

// enclosed tells whether a part of one kind stands in parentheses within one of another kind.
func enclosed(outer, inner int) bool {
	return hold[inner] <= hold[outer]
}

// fits tells whether a part within one of another kind is made as it must be, has at most as many parts as are left, and what is written of it has at most so many parentheses within one another. It goes no further than that allows, so that it ends even where a list holds itself.
func fits(x api.Gx, outer, depth int, left *int) bool {
	*left--
	if *left < 0 || !wellMade(x) {
		return false
	}
	if enclosed(outer, x.Op) {
		depth--
	}
	if depth < 0 {
		return false
	}
	for _, sub := range x.Subs {
		if !fits(sub, x.Op, depth, left) {
			return false
		}
	}
	return true
}

// wellMade tells whether a part has what its kind wants, its Subs looked at only by their number.
func wellMade(x api.Gx) bool {
	return fitSubs(x.Op, len(x.Subs)) && fitName(x) && fitNum(x)
}

// fitSubs tells whether a part of a kind can have so many Subs; of what is no kind none can.
func fitSubs(op, many int) bool {
	switch op {
	case api.GxName, api.GxLit:
		return many == 0
	case api.GxCat:
		return many != 1
	case api.GxAlt:
		return many >= 2
	case api.GxStar, api.GxPlus, api.GxOpt, api.GxField, api.GxAlias, api.GxPrec:
		return many == 1
	}
	return false
}

func fitName(x api.Gx) bool {
	switch x.Op {
	case api.GxName, api.GxField, api.GxAlias:
		return Name(x.Name)
	case api.GxLit:
		return fitLiteral(x.Name)
	}
	return x.Name == ""
}

func fitLiteral(s string) bool {
	if s == "" || len(s) > api.MaxName {
		return false
	}
	for i := range len(s) {
		if !inLiteral(s[i]) {
			return false
		}
	}
	return true
}

func fitNum(x api.Gx) bool {
	if x.Op == api.GxPrec {
		return -maxPrec <= x.Num && x.Num <= maxPrec
	}
	return x.Num == 0
}

// size is how many parts a body has.
func size(x api.Gx) int {
	n := 1
	for _, sub := range x.Subs {
		n += size(sub)
	}
	return n
}
