package gss

import (
	"reflect"
	"slices"
	"testing"

	"bramble/api"
	"bramble/sample"
)

// P16.5: what either has.
func TestMerge(t *testing.T) {
	const some = "0@0 1@1:0 2@1:0 3@2:1,2"
	for _, c := range []struct{ what, a, b, want string }{
		{"no nodes", "", "", ""},
		{"one without nodes", some, "", some},
		{"one node each, alike", "3@1", "3@1", "3@1"},
		{"one node each, of other states", "3@1", "2@1", "2@1 3@1"},
		{"one node each, at other places", "3@1", "3@0", "3@0 3@1"},
		{"one node each, State and At changed about", "1@3", "3@1", "3@1 1@3"},
		{"all nodes and links", some, some, some},
		{"all nodes, some links", some, "0@0 1@1 2@1:0 3@2:1", some},
		{"all nodes, other links", "0@0 1@1:0 2@1 3@2:1", "0@0 1@1 2@1:0 3@2:0,2", "0@0 1@1:0 2@1:0 3@2:0,1,2"},
		{"all nodes, no links", some, "0@0 1@1 2@1 3@2", some},
		{"some nodes", some, "0@0 2@1:0 3@2:1", some},
		{"some nodes, a link that is new", some, "0@0 3@2:0", "0@0 1@1:0 2@1:0 3@2:0,1,2"},
		{"some nodes, a node and a link that are new", some, "0@0 1@1:0 9@1:1 3@2:2", "0@0 1@1:0 2@1:0 9@1:1 3@2:1,2,3"},
		{"a node ahead of all", some, "0@0 3@0:0 3@2:1", "0@0 3@0:0 1@1:0 2@1:0 3@2:1,2,3"},
		{"nodes between", "0@0 4@1:0 8@1:1", "0@0 2@1:0 6@1:0,1", "0@0 2@1:0 4@1:0 6@1:0,1 8@1:2"},
		{"no nodes of both", "0@0 1@1:0", "5@4 6@5:0", "0@0 1@1:0 5@4 6@5:2"},
		{"no nodes of both, one between", "0@0 1@9:0", "5@4 6@5:0", "0@0 5@4 6@5:1 1@9:0"},
		{"a node that links to itself in one", "0@0:0 1@1:0", "0@0 1@1:1", "0@0:0 1@1:0,1"},
		{"nodes that link to one another", "0@0:1 1@0", "0@0 1@0:0", "0@0:1 1@0:0"},
		{"links to later nodes", "0@0:1 2@0", "0@0:1 1@0:0", "0@0:1,2 1@0:0 2@0"},
		{"the greatest numbers", "65535@0 65535@65535:0", "0@65535", "65535@0 0@65535 65535@65535:0"},
	} {
		a, b, want := sample.StackOf(c.a), sample.StackOf(c.b), sample.StackOf(c.want)
		if !Fit(a) || !Fit(b) || !Fit(want) {
			t.Fatalf("%s: a stack is not fit", c.what)
		}
		if got := Merge(a, b); !reflect.DeepEqual(got, want) || !reflect.DeepEqual(mergeByWords(a, b), want) {
			t.Errorf("%s: %v", c.what, got)
		}
		if got := Merge(b, a); !reflect.DeepEqual(got, want) {
			t.Errorf("%s, the other way round: %v", c.what, got)
		}
	}
}

// holdMerge fails where something else is told of two stacks than the chapter's words say, or it hangs on their order, or on what is merged twice.
func holdMerge(t *testing.T, a, b api.Gss) api.Gss {
	t.Helper()
	got := Merge(a, b)
	if want := mergeByWords(a, b); !reflect.DeepEqual(got, want) {
		t.Fatalf("%v and %v: %v, not %v", a, b, got, want)
	}
	if !Fit(got) || !Same(got, Merge(b, a)) {
		t.Fatalf("%v and %v: %v, and the other way round %v", a, b, got, Merge(b, a))
	}
	for _, again := range []api.Gss{Merge(got, a), Merge(a, got), Merge(got, b), Merge(b, got), Merge(got, got)} {
		if !Same(again, got) {
			t.Fatalf("%v and %v: %v, and merged twice %v", a, b, got, again)
		}
	}
	return got
}

// P16.5, P16.6: every two small stacks, and drawn ones.
func TestMergeOfEvery(t *testing.T) {
	all := slices.Collect(sample.Stacks(2, 2, 2))
	for _, a := range all {
		for _, b := range all {
			holdMerge(t, a, b)
		}
	}
	seed := sample.Seed(167)
	alike := 0
	for range 1500 {
		a, b, c := sample.FitStack(&seed, 8, 4, 4), sample.FitStack(&seed, 8, 4, 4), sample.FitStack(&seed, 4, 4, 4)
		ab, bc := holdMerge(t, a, b), holdMerge(t, b, c)
		if len(ab.Nodes) < len(a.Nodes)+len(b.Nodes) {
			alike++
		}
		if one, other := Merge(ab, c), Merge(a, bc); !Same(one, other) {
			t.Fatalf("%v, %v and %v: %v, in another order %v", a, b, c, one, other)
		}
	}
	if alike < 100 {
		t.Errorf("only %d have nodes that are alike", alike)
	}
}

// half is every second node of a stack without links, from a number on.
func half(g api.Gss, from int) api.Gss {
	var made api.Gss
	for number := from; number < len(g.Nodes); number += 2 {
		made.Nodes = append(made.Nodes, g.Nodes[number])
	}
	return made
}

// P16.5: just 4096 nodes in all, and one more.
func TestMergeOfMany(t *testing.T) {
	none := api.Gss{}
	for _, each := range []int{1, 7, 5000} {
		full, more := sample.StackOfMany(4096, each, 3), sample.StackOfMany(4097, each, 3)
		for _, pair := range [][2]api.Gss{
			{full, none}, {full, full}, {full, half(full, 0)}, {half(full, 0), half(full, 1)},
			{{Nodes: full.Nodes[:2000]}, {Nodes: full.Nodes[2000:]}}, {{Nodes: full.Nodes[:3000]}, {Nodes: full.Nodes[1000:]}},
		} {
			for _, got := range []api.Gss{Merge(pair[0], pair[1]), Merge(pair[1], pair[0])} {
				if !reflect.DeepEqual(got, full) {
					t.Errorf("%d at each place: %d and %d nodes: %d", each, len(pair[0].Nodes), len(pair[1].Nodes), len(got.Nodes))
				}
			}
		}
		for _, pair := range [][2]api.Gss{
			{half(more, 0), half(more, 1)}, {full, {Nodes: more.Nodes[4096:]}}, {full, {Nodes: more.Nodes[1:]}},
			{{Nodes: more.Nodes[:2000]}, {Nodes: more.Nodes[2000:]}}, {full, sample.StackOf("1@0 1@1:0")}, {full, half(more, 0)},
		} {
			if !Fit(pair[0]) || !Fit(pair[1]) {
				t.Fatal("a stack is not fit")
			}
			for i := range pair {
				if got := Merge(pair[i], pair[1-i]); !reflect.DeepEqual(got, pair[i]) {
					t.Errorf("%d at each place: %d and %d nodes: %d", each, len(pair[i].Nodes), len(pair[1-i].Nodes), len(got.Nodes))
				}
			}
		}
	}
}

// P16.5: where the nodes are too many, the first stack stays with its links, and gets none of the other one's.
func TestMergeOfTooManyKeepsLinks(t *testing.T) {
	a, b := sample.StackOfMany(4096, 4, 1), sample.StackOf("0@0:0 1@0:0 4@0:0")
	for number := range a.Nodes {
		a.Nodes[number].Links = []int{number / 4}
	}
	if !Fit(a) || !Fit(b) {
		t.Fatal("a stack is not fit")
	}
	if got := Merge(a, b); !reflect.DeepEqual(got, a) {
		t.Error("the first one has changed")
	}
	if got := Merge(b, a); !reflect.DeepEqual(got, b) {
		t.Errorf("%v", got)
	}
}

// P16.5: links of many nodes that lie between one another.
func TestMergeOfManyLinks(t *testing.T) {
	even, odd := sample.StackOfMany(120, 120, 2), sample.StackOfMany(120, 120, 2)
	for number := range 120 {
		odd.Nodes[number].State++
		for link := range 120 {
			even.Nodes[number].Links = append(even.Nodes[number].Links, link)
			odd.Nodes[number].Links = append(odd.Nodes[number].Links, link)
		}
	}
	got := holdMerge(t, even, odd)
	for number, node := range got.Nodes {
		if node.State != number || len(node.Links) != 120 {
			t.Fatalf("node %d: %v", number, node)
		}
		for i, link := range node.Links {
			if link != 2*i+number%2 {
				t.Fatalf("node %d: %v", number, node)
			}
		}
	}
}
