package text

import (
	"iter"
	"strings"
)

// row is the bytes of a row, without the byte 10 that ends it.
type row struct {
	from int
	to   int
}

// rows hands out a text's rows and their numbers. The last one may be empty: a point may stand behind a byte 10 at the end, and in a text of no bytes.
func rows(s string) iter.Seq2[int, row] {
	return func(yield func(int, row) bool) {
		from := 0
		for n := 0; ; n++ {
			size := strings.IndexByte(s[from:], '\n')
			if size < 0 {
				yield(n, row{from: from, to: len(s)})
				return
			}
			if !yield(n, row{from: from, to: from + size}) {
				return
			}
			from += size + 1
		}
	}
}
