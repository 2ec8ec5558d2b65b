package check

import (
	"slices"

	"bramble/api"
)

// view is a fit grammar with what follows from its rules' bodies. Names that nothing has are taken for tokens there: that they are missing is told ahead of all that this could change.
type view struct {
	api.Gram
	places map[string]int // of each name where it stands first: a token's place, a rule's behind all tokens
	empty  []bool         // of each rule whether its Body can be empty
	leads  map[int][]int  // from each rule to those that its Body can be alone, rising
}

func viewOf(g api.Gram) *view {
	v := &view{Gram: g, places: map[string]int{}, empty: make([]bool, len(g.Rules)), leads: map[int][]int{}}
	for place := range len(g.Tokens) + len(g.Rules) {
		if _, ok := v.places[v.nameAt(place)]; !ok {
			v.places[v.nameAt(place)] = place
		}
	}
	v.findEmpty()
	for i, r := range g.Rules {
		v.leads[i] = v.alone(r.Body)
	}
	return v
}

// nameAt is the name of the token or the rule at a place.
func (v *view) nameAt(place int) string {
	if place < len(v.Tokens) {
		return v.Tokens[place].Name
	}
	return v.Rules[place-len(v.Tokens)].Name
}

// ruleOf is the rule that a part names; false, if it names none.
func (v *view) ruleOf(x api.Gx) (int, bool) {
	place, ok := v.places[x.Name]
	if x.Op != api.GxName || !ok || place < len(v.Tokens) {
		return 0, false
	}
	return place - len(v.Tokens), true
}

// findEmpty finds the rules whose Bodies can be empty. It begins with none and goes by rounds till nothing is new, so that no rule is one that only rests on itself.
func (v *view) findEmpty() {
	for grown := true; grown; {
		grown = false
		for i, r := range v.Rules {
			if !v.empty[i] && v.canBeEmpty(r.Body) {
				v.empty[i], grown = true, true
			}
		}
	}
}

// canBeEmpty tells whether a part can be empty, as far as that follows from the rules that are known to be.
func (v *view) canBeEmpty(x api.Gx) bool {
	switch x.Op {
	case api.GxName:
		rule, ok := v.ruleOf(x)
		return ok && v.empty[rule]
	case api.GxLit:
		return false
	case api.GxCat:
		return !slices.ContainsFunc(x.Subs, v.needsSome)
	case api.GxStar, api.GxOpt:
		return true
	}
	// Of GxAlt one sub is enough; the others have but one.
	return slices.ContainsFunc(x.Subs, v.canBeEmpty)
}

func (v *view) needsSome(x api.Gx) bool {
	return !v.canBeEmpty(x)
}

// alone is the rules that a part can be alone, rising.
func (v *view) alone(x api.Gx) []int {
	var rules []int
	for part := range parts(x, v.canStandAlone) {
		if rule, ok := v.ruleOf(part); ok {
			rules = append(rules, rule)
		}
	}
	slices.Sort(rules)
	return slices.Compact(rules)
}

// canStandAlone tells whether nothing needs to stand beside one of a part's Subs.
func (v *view) canStandAlone(x api.Gx, sub int) bool {
	if x.Op != api.GxCat {
		return true
	}
	return !slices.ContainsFunc(x.Subs[:sub], v.needsSome) && !slices.ContainsFunc(x.Subs[sub+1:], v.needsSome)
}

// leadsToItself tells whether, going from rule to rule, one comes from a rule to it.
func (v *view) leadsToItself(rule int) bool {
	met := make([]bool, len(v.Rules))
	waiting := []int{rule}
	for len(waiting) > 0 {
		at := waiting[0]
		waiting = waiting[1:]
		for _, to := range v.leads[at] {
			if !met[to] {
				met[to] = true
				waiting = append(waiting, to)
			}
		}
	}
	return met[rule]
}
