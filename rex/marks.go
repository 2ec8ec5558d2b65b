package rex

import "bramble/api"

// part is a part of an expression with marks on it: a text that was read stands behind the RxSets that took its last letter. All places where it may stand are held at once, so that no text is gone through twice.
type part struct {
	op    int
	set   []api.Runes
	subs  []part
	empty bool // nothing is one of its texts
	ends  bool // what was read ends with one of its texts
	live  bool // there is a mark within it
}

// partOf is an expression without any mark.
func partOf(x api.Rex) part {
	p := part{op: x.Op, set: x.Set, empty: canBeEmpty(x)}
	for _, sub := range x.Subs {
		p.subs = append(p.subs, partOf(sub))
	}
	return p
}

// step moves the marks on by a letter; begins: what was read ends where the part may begin.
func (p *part) step(begins bool, letter int) {
	if !begins && !p.live {
		return
	}
	switch p.op {
	case api.RxSet:
		p.ends = begins && has(p.set, letter)
		p.live = p.ends
		return
	case api.RxCat:
		p.stepRow(begins, letter)
	case api.RxStar, api.RxPlus:
		p.subs[0].step(begins || p.ends, letter)
	default:
		for i := range p.subs {
			p.subs[i].step(begins, letter)
		}
	}
	p.settle()
}

// stepRow moves on the marks of parts that stand one behind the other. Each begins where the one ahead ended by now, ahead of its own move.
func (p *part) stepRow(begins bool, letter int) {
	for i := range p.subs {
		sub := &p.subs[i]
		next := sub.ends || begins && sub.empty
		sub.step(begins, letter)
		begins = next
	}
}

// settle tells of a part anew what its subs tell.
func (p *part) settle() {
	p.ends, p.live = false, false
	for i := range p.subs {
		sub := &p.subs[i]
		if p.op == api.RxCat {
			p.ends = p.ends && sub.empty
		}
		p.ends = p.ends || sub.ends
		p.live = p.live || sub.live
	}
}
