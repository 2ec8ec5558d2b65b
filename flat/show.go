package flat

import (
	"strconv"
	"strings"

	"bramble/api"
)

// writeProd writes a production as a line.
func writeProd(out *strings.Builder, f api.Flat, p api.Prod) {
	out.WriteString(nameOf(f, p.Left) + " ->")
	for _, i := range p.Right {
		out.WriteByte(' ')
		if i.Field != "" {
			out.WriteString(i.Field + ":")
		}
		out.WriteString(nameOf(f, i.Sym))
		if i.Alias != "" {
			out.WriteString("=" + i.Alias)
		}
	}
	if p.Prec != 0 {
		out.WriteString(" %" + strconv.Itoa(p.Prec))
	}
	out.WriteByte('\n')
}
