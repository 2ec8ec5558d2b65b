package parse

import (
	"math"
	"reflect"
	"strings"
	"testing"

	"bramble/api"
	"bramble/sample"
	"bramble/text"
)

// P19.4: the tree behind an edit, edge by edge.
func TestAgain(t *testing.T) {
	words := `token w [a-z]+/skip sp \s+/rule r ("if" w)*`
	for _, c := range []struct {
		what, lines, text string
		e                 api.Edit
		want              string
	}{
		{"nothing, at the beginning", sums, "1+2", api.Edit{}, `(sum 0-3 left:(n 0-1) <"+" 1-2> (n 2-3))`},
		{"nothing, in the middle", sums, "1+2", api.Edit{At: 2}, `(sum 0-3 left:(n 0-1) <"+" 1-2> (n 2-3))`},
		{"nothing, at the end", sums, "1+2", api.Edit{At: 3}, `(sum 0-3 left:(n 0-1) <"+" 1-2> (n 2-3))`},
		{"nothing in nothing", sums, "", api.Edit{}, `(sum 0-0 left:(!n 0-0))`},
		{"the same again", sums, "1+2", api.Edit{At: 1, Old: 1, Text: "+"}, `(sum 0-3 left:(n 0-1) <"+" 1-2> (n 2-3))`},
		{"at the beginning", sums, "2", api.Edit{Text: "1+"}, `(sum 0-3 left:(n 0-1) <"+" 1-2> (n 2-3))`},
		{"what moves all", sums, "1+2", api.Edit{Text: " "}, `(sum 0-4 left:(n 1-2) <"+" 2-3> (n 3-4))`},
		{"at the end", sums, "1", api.Edit{At: 1, Text: "+2"}, `(sum 0-3 left:(n 0-1) <"+" 1-2> (n 2-3))`},
		{"all of it", sums, "1+2", api.Edit{Old: 3, Text: "7"}, `(sum 0-1 left:(n 0-1))`},
		{"all of it, and nothing instead", sums, "1+2", api.Edit{Old: 3}, `(sum 0-0 left:(!n 0-0))`},
		{"into nothing", sums, "", api.Edit{Text: "1"}, `(sum 0-1 left:(n 0-1))`},
		{"across tokens", sums, "12+34", api.Edit{At: 1, Old: 3, Text: "+5+"}, `(sum 0-5 left:(n 0-1) <"+" 1-2> (n 2-3) <"+" 3-4> (n 4-5))`},
		{"what joins tokens", sums, "1+2", api.Edit{At: 1, Old: 1}, `(sum 0-2 left:(n 0-2))`},
		{"what joins tokens by what is put in", sums, "1 2", api.Edit{At: 1, Old: 1, Text: "0"}, `(sum 0-3 left:(n 0-3))`},
		{"what parts a token", sums, "12", api.Edit{At: 1, Text: "+"}, `(sum 0-3 left:(n 0-1) <"+" 1-2> (n 2-3))`},
		{"what parts a token by a blank", sums, "12", api.Edit{At: 1, Text: " "}, `(sum 0-3 left:(?ERROR 0-1 (n 0-1)) left:(n 2-3))`},
		{"another token by a byte more", words, "if a", api.Edit{At: 2, Text: "f"}, `(r 0-5 (?ERROR 0-5 (w 0-3) (w 4-5)))`},
		{"another token by a byte less", words, "iff a", api.Edit{At: 2, Old: 1}, `(r 0-4 <"if" 0-2> (w 3-4))`},
		{"what joins bytes that are none", sums, "1??2", api.Edit{At: 2, Text: "!"}, `(sum 0-5 left:(?ERROR 0-4 (n 0-1) (?ERROR 1-4)) left:(n 4-5))`},
		{"what mends", sums, "1 2", api.Edit{At: 1, Old: 1, Text: "+"}, `(sum 0-3 left:(n 0-1) <"+" 1-2> (n 2-3))`},
		{"what breaks", sums, "1+2", api.Edit{At: 2, Old: 1}, `(sum 0-2 left:(n 0-1) (?ERROR 1-2 <"+" 1-2>))`},
	} {
		x := made(t, c.lines)
		got, err := Again(x, c.text, Tree(x, c.text), c.e)
		if err != api.OK || show(got) != c.want {
			t.Errorf("%s: %s, %v, not %s", c.what, show(got), err, c.want)
		}
		holdAgain(t, x, c.text, c.e)
	}
}

// P19.4: edits that can not be made.
func TestAgainOfNoEdit(t *testing.T) {
	x := made(t, sums)
	long := strings.Repeat("1+", api.MaxText/2)
	for _, c := range []struct {
		s    string
		e    api.Edit
		want api.Errno
	}{
		{"1+2", api.Edit{At: -1}, api.ErrPlace},
		{"1+2", api.Edit{At: 4}, api.ErrPlace},
		{"1+2", api.Edit{Old: -1}, api.ErrPlace},
		{"1+2", api.Edit{Old: 4, Text: "1"}, api.ErrPlace},
		{"1+2", api.Edit{At: 2, Old: 2}, api.ErrPlace},
		{"", api.Edit{Old: 1}, api.ErrPlace},
		{"1+2", api.Edit{At: math.MaxInt, Old: math.MaxInt}, api.ErrPlace},
		{"1+2", api.Edit{At: math.MinInt, Old: math.MinInt}, api.ErrPlace},
		{"1+2", api.Edit{At: -1, Text: long}, api.ErrPlace},
		{"1+2", api.Edit{Text: long}, api.ErrLong},
		{long, api.Edit{At: 1, Text: "1"}, api.ErrLong},
		{long + "1", api.Edit{}, api.ErrLong},
	} {
		n, err := Again(x, c.s, Tree(x, c.s), c.e)
		if err != c.want || !reflect.DeepEqual(n, api.Node{}) || text.Fit(c.s, c.e) != c.want {
			t.Errorf("%.9q, %d, %d: %s, %v, not %v", c.s, c.e.At, c.e.Old, show(n), err, c.want)
		}
	}
	for _, e := range []api.Edit{{At: 1, Old: 1, Text: "-"}, {Old: len(long) - 1}, {At: 3, Old: 7}} {
		holdAgain(t, x, long, e)
	}
	holdAgain(t, x, long+"1", api.Edit{Old: 1})
}

// holdAgain fails where Again tells otherwise than Tree of the text behind (P19.8).
func holdAgain(t *testing.T, x api.Lang, s string, e api.Edit) {
	t.Helper()
	behind, want := text.Apply(s, e)
	tree := api.Node{}
	if want == api.OK {
		tree = Tree(x, behind)
	}
	if got, err := Again(x, s, Tree(x, s), e); err != want || !reflect.DeepEqual(got, tree) {
		t.Fatalf("%.40q, %d, %d, %.40q: %.500s, %v, not %.500s, %v", s, e.At, e.Old, e.Text, show(got), err, show(tree), want)
	}
}

// Every edit of every small text.
func TestAgainOfAllSmall(t *testing.T) {
	parts := []string{"1", "+", " ", "?"}
	x := made(t, sums)
	for _, s := range sample.Texts(parts, 3) {
		for at := range len(s) + 1 {
			for old := range len(s) - at + 1 {
				for _, put := range sample.Texts(parts, 2) {
					holdAgain(t, x, s, api.Edit{At: at, Old: old, Text: put})
				}
			}
		}
	}
}
