package node

import "bramble/api"

// What a tree has at most, to be fit.
const (
	fitNodes = 5000
	fitDeep  = 32
	fitKind  = 80
	fitField = 32
)

// fitAlone tells whether a node is fit, and its kids lie in it as they must: whether these are fit themselves is not looked at.
func fitAlone(n api.Node, size int) bool {
	return 0 <= n.From && n.From <= n.To && n.To <= size &&
		len(n.Kind) > 0 && len(n.Kind) <= fitKind && len(n.Field) <= fitField &&
		fitBad(n) && fitKids(n)
}

func fitBad(n api.Node) bool {
	if n.Bad == api.BadMiss {
		return len(n.Kids) == 0 && n.From == n.To
	}
	return n.Bad == api.BadNone || n.Bad == api.BadError
}

func fitKids(n api.Node) bool {
	at := n.From
	for _, kid := range n.Kids {
		if kid.From < at || kid.To > n.To {
			return false
		}
		at = kid.To
	}
	return true
}
