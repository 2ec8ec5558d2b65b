package nfa

import (
	"bytes"
	"iter"

	"bramble/api"
)

// The least and the greatest byte that may stand behind a letter's first one.
const (
	leastBehind    = 0x80
	greatestBehind = 0xBF
)

// byLength is the letters that have equally many bytes; those of three are cut where no letters are.
var byLength = [...]api.Runes{
	{Lo: 0, Hi: 0x7F},
	{Lo: 0x80, Hi: 0x7FF},
	{Lo: 0x800, Hi: 0xD7FF},
	{Lo: 0xE000, Hi: 0xFFFF},
	{Lo: 0x10000, Hi: 0x10FFFF},
}

// rows hands out the rows of bytes of some letters, each in memory of its own.
func rows(x api.Runes) iter.Seq[[]api.Arc] {
	return func(yield func([]api.Arc) bool) {
		for _, same := range byLength {
			lo, hi := max(x.Lo, same.Lo), min(x.Hi, same.Hi)
			if lo > hi {
				continue
			}
			for row := range between(bytesOf(lo), bytesOf(hi)) {
				if !yield(row) {
					return
				}
			}
		}
	}
}

// bytesOf is the bytes of a letter.
func bytesOf(letter int) []byte {
	return []byte(string(rune(letter)))
}

// between is the rows from some bytes to equally many others.
func between(a, b []byte) iter.Seq[[]api.Arc] {
	more := len(a) - 1
	least := bytes.Repeat([]byte{leastBehind}, more)
	greatest := bytes.Repeat([]byte{greatestBehind}, more)
	switch {
	case more > 0 && a[0] == b[0]:
		return behind(a[0], between(a[1:], b[1:]))
	case !bytes.Equal(a[1:], least):
		return inTurn(behind(a[0], between(a[1:], greatest)), between(joined(a[0]+1, least), b))
	case !bytes.Equal(b[1:], greatest):
		return inTurn(between(a, joined(b[0]-1, greatest)), behind(b[0], between(least, b[1:])))
	}
	return single(a, b)
}

// joined is a byte and others behind it.
func joined(c byte, l []byte) []byte {
	return append([]byte{c}, l...)
}

// single is one row alone: at each place every byte from one to the other.
func single(a, b []byte) iter.Seq[[]api.Arc] {
	return func(yield func([]api.Arc) bool) {
		var row []api.Arc
		for i := range a {
			row = append(row, api.Arc{Lo: int(a[i]), Hi: int(b[i])})
		}
		yield(row)
	}
}

// behind is rows with a byte ahead of each.
func behind(c byte, l iter.Seq[[]api.Arc]) iter.Seq[[]api.Arc] {
	return func(yield func([]api.Arc) bool) {
		for row := range l {
			if !yield(append([]api.Arc{{Lo: int(c), Hi: int(c)}}, row...)) {
				return
			}
		}
	}
}

// inTurn is rows, and behind them others.
func inTurn(a, b iter.Seq[[]api.Arc]) iter.Seq[[]api.Arc] {
	return func(yield func([]api.Arc) bool) {
		for _, l := range [...]iter.Seq[[]api.Arc]{a, b} {
			for row := range l {
				if !yield(row) {
					return
				}
			}
		}
	}
}
