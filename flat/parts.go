package flat

import (
	"iter"

	"bramble/api"
)

// parts hands out the parts of a grammar's bodies, rule by rule, from the left, each ahead of what is within it.
func parts(g api.Gram) iter.Seq[api.Gx] {
	return func(yield func(api.Gx) bool) {
		for _, r := range g.Rules {
			if !handParts(r.Body, yield) {
				return
			}
		}
	}
}

func handParts(x api.Gx, yield func(api.Gx) bool) bool {
	if !yield(x) {
		return false
	}
	for _, sub := range x.Subs {
		if !handParts(sub, yield) {
			return false
		}
	}
	return true
}

// alternatives hands out the alternatives of a part: what is neither GxAlt nor GxPrec any more, with its Prec.
func alternatives(x api.Gx) iter.Seq2[api.Gx, int] {
	return func(yield func(api.Gx, int) bool) {
		handAlternatives(x, 0, yield)
	}
}

func handAlternatives(x api.Gx, prec int, yield func(api.Gx, int) bool) bool {
	if x.Op != api.GxAlt && x.Op != api.GxPrec {
		return yield(x, prec)
	}
	for _, sub := range x.Subs {
		// The Num of a GxAlt is 0.
		if !handAlternatives(sub, prec+x.Num, yield) {
			return false
		}
	}
	return true
}
