package sample

import "bramble/api"

// Mended is a mended whole that is drawn, of a way as Way draws it, and the row that it mends: some terminals are missing, some stand behind tokens that are passed over, and some of these stand behind all. False, if there is none.
func Mended(seed *Seed, f api.Flat, deep int) (api.Mended, []int, bool) {
	root, _, ok := Way(seed, f, len(f.Terms), deep)
	if !ok {
		return api.Mended{}, nil, false
	}
	var row []int
	drawMended(seed, f, &row, &root)
	rest := drawJunk(seed, f, &row)
	return api.Mended{Root: root, Rest: rest}, row, true
}

// drawMended makes a way a mended one, from the end of a row on, and puts its tokens there.
func drawMended(seed *Seed, f api.Flat, row *[]int, d *api.Der) {
	d.From = len(*row)
	for i := range d.Kids {
		drawMended(seed, f, row, &d.Kids[i])
	}
	switch {
	case d.Prod >= 0:
	case seed.Below(6) == 0:
		d.Prod = -2
	default:
		d.Junk = drawJunk(seed, f, row)
		*row = append(*row, d.Sym)
	}
	d.To = len(*row)
}

// drawJunk puts some tokens at the end of a row, terminals or not, mostly none, and tells how many.
func drawJunk(seed *Seed, f api.Flat, row *[]int) int {
	many := max(0, seed.Below(9)-6)
	for range many {
		*row = append(*row, seed.Below(len(f.Terms)+2)-1)
	}
	return many
}
