package itree

import (
	"slices"
	"testing"

	"twain/api"
	"twain/sample"
)

// items: those of the tree below n, in the order in which they stand there.
func items(n *node) []item {
	if n == nil {
		return nil
	}
	return slices.Concat(items(n.below[ahead]), []item{n.item}, items(n.below[behind]))
}

// shaped: the longest way down from n, and the greatest end there, each counted anew. Does each node know both, and is no side higher than the other one by more than 1?
func shaped(t *testing.T, n *node) (int, int) {
	t.Helper()
	if n == nil {
		return 0, 0
	}
	left, leftEnd := shaped(t, n.below[ahead])
	right, rightEnd := shaped(t, n.below[behind])
	height, end := 1+max(left, right), max(leftEnd, rightEnd, n.span.Off+n.span.Len)
	if n.height != height || n.end != end || max(left, right)-min(left, right) > 1 {
		t.Fatalf("%v: height %d, end %d, want %d, %d; its sides are %d and %d high", n.item, n.height, n.end, height, end, left, right)
	}
	return height, end
}

// standing: is the tree's shape as it is to be, and has it just those items, which rise?
func standing(t *testing.T, x *Tree, want []item) {
	t.Helper()
	height, _ := shaped(t, x.root)
	if got := items(x.root); !slices.Equal(got, want) || x.size != len(want) || x.Height() != height {
		t.Fatalf("%v, Len %d, Height %d, want %v, %d, %d", got, x.size, x.Height(), want, len(want), height)
	}
}

// without: the list without that one.
func without(list []item, at int) []item {
	return slices.Concat(list[:at], list[at+1:])
}

// nodes: all nodes from n down.
func nodes(n *node) []*node {
	if n == nil {
		return nil
	}
	return slices.Concat([]*node{n}, nodes(n.below[ahead]), nodes(n.below[behind]))
}

// kind: how many children a node has, and on which side.
func kind(n *node) string {
	switch {
	case n.below[ahead] != nil && n.below[behind] != nil:
		return "with two"
	case n.below[ahead] != nil:
		return "with one ahead"
	case n.below[behind] != nil:
		return "with one behind"
	}
	return "leaf"
}

// row: n items that rise.
func row(n int) []item {
	list := make([]item, n)
	for i := range list {
		list[i] = item{api.Span{Off: i / 2, Len: 1 + i%2 + i*i%7*(i%2)}, i % 5}
	}
	return list
}

// grown: a tree of the items, put in in an order that seed chooses, the shape looked at behind each.
func grown(t *testing.T, list []item, seed int) *Tree {
	t.Helper()
	x := New()
	var have []item
	for i, at := range shuffled(len(list), seed) {
		if !x.Insert(list[at].span, list[at].id) {
			t.Fatalf("Insert(%v), of %d: false", list[at], i)
		}
		have = append(have, list[at])
		slices.SortFunc(have, item.against)
		standing(t, x, have)
	}
	return x
}

// shuffled: the numbers below n, in an order that seed chooses.
func shuffled(n, seed int) []int {
	words := sample.Words()[130+seed:]
	list := make([]int, n)
	for i := range list {
		j := int(words[i] >> 16 % uint64(i+1))
		list[i] = list[j]
		list[j] = i
	}
	return list
}

// The root, leaves, and nodes with a child on either side and on both: each node of many trees leaves, as the first one.
func TestP14_1DeleteOfEachNode(t *testing.T) {
	met := map[string]int{}
	for n := 1; n <= 24; n++ {
		list := row(n)
		for seed := range 6 {
			for i, one := range nodes(grown(t, list, seed).root) {
				x := grown(t, list, seed)
				at := slices.Index(list, one.item)
				what := kind(one)
				if i == 0 {
					what = "root, " + what
				}
				met[what]++
				if at < 0 || !x.Delete(one.span, one.id) {
					t.Fatalf("Delete(%v), %s: false", one.item, what)
				}
				standing(t, x, without(list, at))
				if x.Delete(one.span, one.id) {
					t.Fatalf("Delete(%v) again: true", one.item)
				}
				if !x.Insert(one.span, one.id) {
					t.Fatalf("Insert(%v) again: false", one.item)
				}
				standing(t, x, list)
			}
		}
	}
	for _, what := range []string{"leaf", "with one ahead", "with one behind", "with two", "root, leaf", "root, with one ahead", "root, with one behind", "root, with two"} {
		if met[what] == 0 {
			t.Errorf("no node that left was a %s", what)
		}
	}
}

// The root leaves, again and again, until nothing is left; and the same of the first one, and of the last.
func TestP14_2ShapeWhileAllLeave(t *testing.T) {
	first := func(x *Tree) item { return items(x.root)[0] }
	root := func(x *Tree) item { return x.root.item }
	final := func(x *Tree) item { return last(items(x.root)) }
	for _, choose := range []func(*Tree) item{first, root, final} {
		for seed := range 5 {
			list := row(150)
			x := grown(t, list, seed)
			for len(list) > 0 {
				one := choose(x)
				if !x.Delete(one.span, one.id) {
					t.Fatalf("Delete(%v), of %d: false", one, len(list))
				}
				list = without(list, slices.Index(list, one))
				standing(t, x, list)
			}
		}
	}
}

// A hundred come and go in no order; the shape is looked at behind each.
func TestP14_2ShapeInLongRuns(t *testing.T) {
	for seed := range 10 {
		list := row(100)
		x := New()
		there := map[item]int{}
		for _, w := range sample.Words()[130+100*seed:][:1000] {
			one := list[int(w>>16%100)]
			if _, ok := there[one]; ok {
				delete(there, one)
				x.Delete(one.span, one.id)
			} else {
				there[one] = 1
				x.Insert(one.span, one.id)
			}
			standing(t, x, slices.DeleteFunc(slices.Clone(list), func(i item) bool { return there[i] == 0 }))
		}
	}
}

// The order of the tests' rows, told by the order itself.
func TestRowRises(t *testing.T) {
	if list := row(150); !slices.IsSortedFunc(list, item.against) || len(slices.Compact(list)) != 150 {
		t.Errorf("%v", list)
	}
}
