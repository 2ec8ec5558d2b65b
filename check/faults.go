package check

import (
	"slices"
	"strings"

	"bramble/api"
	"bramble/rex"
)

// fault is an error, and at which places it is.
type fault struct {
	err api.Errno
	at  func(place int) bool
}

// faults is what can be wrong with a grammar, in the order in which it is told.
func (v *view) faults() []fault {
	return []fault{
		{api.ErrTwice, v.isTwice},
		{api.ErrName, v.isHiddenWhole},
		{api.ErrEmpty, v.isEmptyToken},
		{api.ErrNone, v.ofRule(v.usesMissing)},
		{api.ErrKind, v.ofRule(v.usesSkip)},
		{api.ErrRound, v.ofRule(v.repeatsNothing)},
		{api.ErrRound, v.ofRule(v.leadsToItself)},
	}
}

// firstFault is the first thing that is wrong, at the first place where it is.
func (v *view) firstFault() (api.Errno, int) {
	for _, f := range v.faults() {
		for place := range len(v.Tokens) + len(v.Rules) {
			if f.at(place) {
				return f.err, place
			}
		}
	}
	return api.OK, 0
}

// ofRule tells of places what is told of rules.
func (v *view) ofRule(wrong func(rule int) bool) func(place int) bool {
	return func(place int) bool {
		return place >= len(v.Tokens) && wrong(place-len(v.Tokens))
	}
}

// isTwice tells whether an earlier place has the same name.
func (v *view) isTwice(place int) bool {
	return v.places[v.nameAt(place)] < place
}

// isHiddenWhole tells whether a place is the first rule's, with a name by which it would not be shown.
func (v *view) isHiddenWhole(place int) bool {
	return place == len(v.Tokens) && strings.HasPrefix(v.nameAt(place), "_")
}

func (v *view) isEmptyToken(place int) bool {
	return place < len(v.Tokens) && len(v.Tokens[place].Prog) == 0 && rex.Empty(v.Tokens[place].Rex)
}

// usesMissing tells whether a rule uses a name that nothing has.
func (v *view) usesMissing(rule int) bool {
	return slices.ContainsFunc(Uses(v.Rules[rule].Body), func(name string) bool {
		_, ok := v.places[name]
		return !ok
	})
}

// usesSkip tells whether a rule uses a token that stands between others.
func (v *view) usesSkip(rule int) bool {
	return slices.ContainsFunc(Uses(v.Rules[rule].Body), func(name string) bool {
		place, ok := v.places[name]
		return ok && place < len(v.Tokens) && v.Tokens[place].Skip
	})
}

// repeatsNothing tells whether something that can be empty is repeated in a rule: it could be so any number of times.
func (v *view) repeatsNothing(rule int) bool {
	for part := range parts(v.Rules[rule].Body, everySub) {
		if (part.Op == api.GxStar || part.Op == api.GxPlus) && v.canBeEmpty(part.Subs[0]) {
			return true
		}
	}
	return false
}
