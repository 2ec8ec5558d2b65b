package node

import (
	"strings"
	"testing"

	"bramble/api"
	"bramble/sample"
)

// P14.2: each kind of node, with Kids and without, with a Field and without.
func TestPrint(t *testing.T) {
	x, y := of("x", 0, 1), bare(of("\"+\"", 1, 2))
	for _, c := range []struct {
		n    api.Node
		want string
	}{
		{of("sum", 0, 2, in("left", of("number", 0, 1)), y), `(sum left: (number) "+")`},
		{of("a", 0, 2), "(a)"},
		{of("a", 0, 2, x), "(a (x))"},
		{of("a", 0, 2, x, y), `(a (x) "+")`},
		{of("a", 0, 2, y, y, y), `(a "+" "+" "+")`},
		{bare(of("a", 0, 2)), "a"},
		{bare(of("a", 0, 2, x)), "a[(x)]"},
		{bare(of("a", 0, 2, x, y)), `a[(x) "+"]`},
		{bare(of("a", 0, 2, y, bare(of("b", 1, 1, y, x)), x)), `a["+" b["+" (x)] (x)]`},
		{bad(api.BadError, of("ERROR", 0, 2)), "(ERROR)"},
		{bad(api.BadError, of("ERROR", 0, 2, x, y)), `(ERROR (x) "+")`},
		{bad(api.BadError, bare(of("e", 0, 2))), "(e)"},
		{bad(api.BadError, bare(of("e", 0, 2, x, y))), `(e (x) "+")`},
		{bad(api.BadMiss, of("m", 2, 2)), "(MISSING m)"},
		{bad(api.BadMiss, of("m", 2, 2, x, y)), "(MISSING m)"},
		{bad(api.BadMiss, bare(of("\"m\"", 2, 2))), `(MISSING "m")`},
		{bad(api.BadMiss, bare(of("\"m\"", 2, 2, x))), `(MISSING "m")`},
		{bad(3, of("a", 0, 2, x)), "(a (x))"},
		{bad(3, bare(of("a", 0, 2, x))), "a[(x)]"},
		{bad(-1, bare(of("a", 0, 2))), "a"},
		{of("", 0, 0), "()"},
		{of("", 0, 0, x), "( (x))"},
		{bare(of("", 0, 0)), ""},
		{bare(of("", 0, 0, bare(of("", 0, 0)), bare(of("", 0, 0)))), "[ ]"},
		{bad(api.BadMiss, of("", 0, 0)), "(MISSING )"},
		{of("(\n \x00\xff", 0, 0), "((\n \x00\xff)"},
	} {
		if got := Print(c.n); got != c.want {
			t.Errorf("%v: %q, not %q", c.n, got, c.want)
		}
		for _, field := range []string{"left", "é", ": ", " "} {
			if got := Print(in(field, c.n)); got != field+": "+c.want {
				t.Errorf("%v: %q, not %q", in(field, c.n), got, field+": "+c.want)
			}
			if got, want := Print(of("r", 0, 0, x, in(field, c.n))), "(r (x) "+field+": "+c.want+")"; got != want {
				t.Errorf("%v within another: %q, not %q", c.n, got, want)
			}
		}
	}
}

// Where bytes lie is not told, nor whether that can be.
func TestPrintTellsNoPlaces(t *testing.T) {
	seed := sample.Seed(47)
	for range 200 {
		n := sample.AnyTree(&seed, 9)
		was := Print(n)
		for _, part := range sample.NodesOf(&n) {
			part.From, part.To = seed.Below(99)-50, seed.Below(99)-50
		}
		if got := Print(n); got != was {
			t.Errorf("%q, not %q", got, was)
		}
	}
}

func TestPrintOfGreatest(t *testing.T) {
	if got, want := Print(row(5000)), strings.Repeat("(a ", 4999)+"(a)"+strings.Repeat(")", 4999); got != want {
		t.Errorf("5000 nodes within one another: %d bytes, not %d", len(got), len(want))
	}
	if got, want := Print(side(4999)), "(a"+strings.Repeat(" (b)", 4999)+")"; got != want {
		t.Errorf("5000 nodes side by side: %d bytes, not %d", len(got), len(want))
	}
	n := row(5000)
	for _, part := range sample.NodesOf(&n) {
		part.Named = false
	}
	if got, want := Print(n), strings.Repeat("a[", 4999)+"a"+strings.Repeat("]", 4999); got != want {
		t.Errorf("5000 that are not Named: %d bytes, not %d", len(got), len(want))
	}
}
