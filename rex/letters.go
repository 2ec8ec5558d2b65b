package rex

import (
	"cmp"
	"iter"
	"slices"
	"strings"
	"unicode/utf8"

	"bramble/api"
)

// The code points that there are, and those among them that are no letters.
const (
	lastLetter = 0x10FFFF
	firstGap   = 0xD800
	lastGap    = 0xDFFF
)

// What stands for a letter where there is none: at a byte that is none, and at the end of a text.
const (
	noLetter  = -1
	endOfText = -2
)

// letters hands out the letters of a text, each with the place behind it.
func letters(s string) iter.Seq2[int, int] {
	return func(yield func(int, int) bool) {
		for at, c := range s {
			letter, behind := int(c), at+utf8.RuneLen(c)
			// The loop tells a byte that is none as the letter FFFD, which may stand there itself, too.
			if c == utf8.RuneError && !strings.HasPrefix(s[at:], string(utf8.RuneError)) {
				letter, behind = noLetter, at+1
			}
			if !yield(letter, behind) {
				return
			}
		}
	}
}

// between is the letters from one to another one.
func between(lo, hi int) api.Runes {
	return api.Runes{Lo: lo, Hi: hi}
}

// alone is the set of one letter.
func alone(letter int) []api.Runes {
	return []api.Runes{between(letter, letter)}
}

// isAlone tells whether a set is one letter.
func isAlone(l []api.Runes) bool {
	return len(l) == 1 && l[0].Lo == l[0].Hi
}

// has tells whether a set in order has a letter.
func has(l []api.Runes, letter int) bool {
	_, found := slices.BinarySearchFunc(l, letter, func(x api.Runes, letter int) int {
		switch {
		case x.Hi < letter:
			return -1
		case x.Lo > letter:
			return 1
		}
		return 0
	})
	return found
}

// others is the letters that none of some ranges has, in order. What is no letter counts as had, so that it is in no answer.
func others(l []api.Runes) []api.Runes {
	had := append(slices.Clone(l), between(firstGap, lastGap))
	slices.SortFunc(had, func(a, b api.Runes) int { return cmp.Compare(a.Lo, b.Lo) })
	var out []api.Runes
	from := 0
	for _, x := range had {
		if from < x.Lo {
			out = append(out, between(from, x.Lo-1))
		}
		from = max(from, x.Hi+1)
	}
	if from <= lastLetter {
		out = append(out, between(from, lastLetter))
	}
	return out
}

// inOrder is the letters of some ranges, rising and none touching another one: what others leaves out is just that.
func inOrder(l []api.Runes) []api.Runes {
	return others(others(l))
}

// isInOrder tells whether ranges are letters alone, rising, none touching another one.
func isInOrder(l []api.Runes) bool {
	ahead := -2 // so that the first one may begin at 0
	for _, x := range l {
		if x.Lo < ahead+2 || x.Hi < x.Lo || x.Hi > lastLetter {
			return false
		}
		if x.Lo <= lastGap && x.Hi >= firstGap {
			return false
		}
		ahead = x.Hi
	}
	return true
}
