package check

import (
	"iter"

	"bramble/api"
)

// parts hands out a part, and of the parts within it those to which it comes by Subs that a closure lets through, told by their places.
func parts(x api.Gx, through func(x api.Gx, sub int) bool) iter.Seq[api.Gx] {
	return func(yield func(api.Gx) bool) {
		var walk func(api.Gx) bool
		walk = func(x api.Gx) bool {
			if !yield(x) {
				return false
			}
			for i, sub := range x.Subs {
				if through(x, i) && !walk(sub) {
					return false
				}
			}
			return true
		}
		walk(x)
	}
}

// everySub lets every sub through.
func everySub(api.Gx, int) bool { return true }
