package itree_test

import (
	"fmt"
	"math"
	"slices"
	"testing"

	"twain/api"
	"twain/itree"
	"twain/sample"
)

// overlaps: are those the ids that Overlaps tells, and does Any tell whether there is one?
func overlaps(t *testing.T, x *itree.Tree, off, length int, want ...int) {
	t.Helper()
	s := api.Span{Off: off, Len: length}
	if got := x.Overlaps(s); !slices.Equal(got, want) {
		t.Errorf("Overlaps(%v): %v, want %v", s, got, want)
	}
	if got := x.Any(s); got != (len(want) > 0) {
		t.Errorf("Any(%v): %v, want %v", s, got, len(want) > 0)
	}
}

// ids: are those the ids, and so many?
func ids(t *testing.T, x *itree.Tree, want ...int) {
	t.Helper()
	if got := x.Ids(); !slices.Equal(got, want) || x.Len() != len(want) {
		t.Errorf("Ids: %v, Len %d, want %v", got, x.Len(), want)
	}
}

// answers: is that what an Insert, or a Delete, answered?
func answers(t *testing.T, what string, got, want bool) {
	t.Helper()
	if got != want {
		t.Errorf("%s: %v, want %v", what, got, want)
	}
}

func TestP14_2Example(t *testing.T) {
	x := itree.New()
	answers(t, "Insert (0, 4) 1", x.Insert(api.Span{Off: 0, Len: 4}, 1), true)
	answers(t, "Insert (2, 4) 2", x.Insert(api.Span{Off: 2, Len: 4}, 2), true)
	overlaps(t, x, 3, 1, 1, 2)
	overlaps(t, x, 4, 1, 2)
	overlaps(t, x, 1, 1, 1)
	overlaps(t, x, 6, 1)
	ids(t, x, 1, 2)
}

func TestP14_1AnEmptyTree(t *testing.T) {
	a := both()
	if a.x == nil {
		t.Fatal("New: nil")
	}
	a.tells(t, "new")
	if h := a.x.Height(); h != 0 {
		t.Errorf("Height of an empty tree: %d", h)
	}
	for _, s := range sample.Spans() {
		a.goes(t, a.remove, entry{s, 0}, false)
		a.finds(t, "empty", s)
	}
	ids(t, a.x)
	// Emptied, it is as it was.
	a.goes(t, a.insert, entry{api.Span{Off: 2, Len: 2}, 1}, true)
	a.goes(t, a.remove, entry{api.Span{Off: 2, Len: 2}, 1}, true)
	a.finds(t, "emptied", sample.Spans()...)
	ids(t, a.x)
	if h := a.x.Height(); h != 0 {
		t.Errorf("Height of an emptied tree: %d", h)
	}
}

// Each plain span alone, asked for by each plain span.
func TestP14_1OneSpan(t *testing.T) {
	for i, s := range sample.Spans() {
		a, e := both(), entry{s, i - 300}
		a.goes(t, a.insert, e, s.Len > 0)
		a.finds(t, fmt.Sprintf("of %v", s), sample.Spans()...)
		if s.Len == 0 {
			continue
		}
		ids(t, a.x, i-300)
		if h := a.x.Height(); h != 1 {
			t.Errorf("Height of one span: %d", h)
		}
		a.goes(t, a.insert, e, false)
		a.goes(t, a.remove, entry{s, i - 299}, false)
		a.goes(t, a.remove, e, true)
		a.goes(t, a.remove, e, false)
		ids(t, a.x)
	}
}

func TestP14_1ASecondTime(t *testing.T) {
	x := itree.New()
	s := api.Span{Off: 3, Len: 2}
	answers(t, "Insert", x.Insert(s, 7), true)
	answers(t, "Insert again", x.Insert(s, 7), false)
	ids(t, x, 7)
	answers(t, "Insert under another id", x.Insert(s, 5), true)
	answers(t, "Insert under a third id", x.Insert(s, 9), true)
	for _, id := range []int{5, 7, 9} {
		answers(t, "Insert again", x.Insert(s, id), false)
	}
	ids(t, x, 5, 7, 9)
	overlaps(t, x, 4, 1, 5, 7, 9)
	answers(t, "Delete under an id that is not there", x.Delete(s, 6), false)
	answers(t, "Delete of another span under its id", x.Delete(api.Span{Off: 3, Len: 1}, 7), false)
	answers(t, "Delete of another span under its id", x.Delete(api.Span{Off: 4, Len: 2}, 7), false)
	answers(t, "Delete of another span under its id", x.Delete(api.Span{Off: 4, Len: 1}, 7), false)
	ids(t, x, 5, 7, 9)
	answers(t, "Delete", x.Delete(s, 7), true)
	answers(t, "Delete again", x.Delete(s, 7), false)
	ids(t, x, 5, 9)
	overlaps(t, x, 4, 1, 5, 9)
	answers(t, "Insert anew", x.Insert(s, 7), true)
	ids(t, x, 5, 7, 9)
}

// An id may stand for several spans, and is told once for each.
func TestP14_1OneIdForSeveralSpans(t *testing.T) {
	x := itree.New()
	for _, s := range []api.Span{{Off: 4, Len: 1}, {Off: 0, Len: 9}, {Off: 4, Len: 3}} {
		answers(t, "Insert", x.Insert(s, 6), true)
	}
	answers(t, "Insert", x.Insert(api.Span{Off: 4, Len: 2}, 1), true)
	ids(t, x, 6, 6, 1, 6)
	overlaps(t, x, 5, 1, 6, 1, 6)
	overlaps(t, x, 8, 1, 6)
	answers(t, "Delete", x.Delete(api.Span{Off: 0, Len: 9}, 6), true)
	ids(t, x, 6, 1, 6)
	overlaps(t, x, 8, 1)
}

// By Off, then Len, then the id, in whatever order they are put in.
func TestP14_1TheOrder(t *testing.T) {
	entries := []entry{
		{api.Span{Off: 3, Len: 100}, 100},
		{api.Span{Off: 4, Len: 1}, 9},
		{api.Span{Off: 4, Len: 2}, -3},
		{api.Span{Off: 4, Len: 2}, 1},
		{api.Span{Off: 4, Len: 8}, 0},
		{api.Span{Off: 5, Len: 1}, -9},
	}
	for _, order := range sample.Orders(len(entries)) {
		x := itree.New()
		for _, i := range order {
			x.Insert(entries[i].s, entries[i].id)
		}
		ids(t, x, 100, 9, -3, 1, 0, -9)
		overlaps(t, x, 4, 1, 100, 9, -3, 1, 0)
		overlaps(t, x, 5, 1, 100, -3, 1, 0, -9)
		overlaps(t, x, 5, 9, 100, -3, 1, 0, -9)
		overlaps(t, x, 6, 1, 100, 0)
		overlaps(t, x, 12, 4, 100)
	}
}

// A difference of the greatest and the least one would wrap.
func TestP14_1IdsAtTheEnds(t *testing.T) {
	ends := []int{math.MinInt, math.MinInt + 1, -1, 0, 1, math.MaxInt - 1, math.MaxInt}
	s := api.Span{Off: 1, Len: 2}
	for _, order := range sample.Orders(len(ends)) {
		x := itree.New()
		for _, i := range order {
			answers(t, fmt.Sprintf("Insert under %d", ends[i]), x.Insert(s, ends[i]), true)
		}
		ids(t, x, ends...)
		overlaps(t, x, 2, 1, ends...)
		left := slices.Clone(ends)
		for _, i := range order[:4] {
			answers(t, fmt.Sprintf("Delete under %d", ends[i]), x.Delete(s, ends[i]), true)
			answers(t, fmt.Sprintf("Delete again under %d", ends[i]), x.Delete(s, ends[i]), false)
			left = slices.DeleteFunc(left, func(id int) bool { return id == ends[i] })
			ids(t, x, left...)
		}
	}
}

func TestP14_1SpansAtTheEnds(t *testing.T) {
	x := itree.New()
	for id, s := range []api.Span{{Off: 0, Len: 1}, {Off: 0, Len: most}, {Off: 1, Len: most}, {Off: most - 1, Len: 1}, {Off: most, Len: 1}, {Off: most, Len: most}} {
		answers(t, fmt.Sprintf("Insert(%v)", s), x.Insert(s, id), true)
	}
	ids(t, x, 0, 1, 2, 3, 4, 5)
	overlaps(t, x, 0, 1, 0, 1)
	overlaps(t, x, 1, 1, 1, 2)
	overlaps(t, x, most-1, 1, 1, 2, 3)
	overlaps(t, x, most, 1, 2, 4, 5)
	overlaps(t, x, most, most, 2, 4, 5)
	overlaps(t, x, 0, most, 0, 1, 2, 3)
	overlaps(t, x, 1, most, 1, 2, 3, 4, 5)
	overlaps(t, x, most-1, most, 1, 2, 3, 4, 5)
	answers(t, "Delete", x.Delete(api.Span{Off: 1, Len: most}, 2), true)
	answers(t, "Delete", x.Delete(api.Span{Off: most, Len: 1}, 4), true)
	overlaps(t, x, most, 1, 5)
	answers(t, "Delete", x.Delete(api.Span{Off: most, Len: most}, 5), true)
	overlaps(t, x, most, most)
	ids(t, x, 0, 1, 3)
}

func TestP14_2SpansThatTouch(t *testing.T) {
	x := itree.New()
	for id, s := range []api.Span{{Off: 2, Len: 2}, {Off: 4, Len: 2}, {Off: 6, Len: 1}, {Off: 9, Len: 3}} {
		answers(t, "Insert", x.Insert(s, id), true)
	}
	overlaps(t, x, 0, 2)
	overlaps(t, x, 0, 3, 0)
	overlaps(t, x, 2, 2, 0)
	overlaps(t, x, 3, 1, 0)
	overlaps(t, x, 3, 2, 0, 1)
	overlaps(t, x, 4, 1, 1)
	overlaps(t, x, 5, 2, 1, 2)
	overlaps(t, x, 6, 1, 2)
	overlaps(t, x, 7, 2)
	overlaps(t, x, 7, 3, 3)
	overlaps(t, x, 6, 4, 2, 3)
	overlaps(t, x, 12, 1)
	overlaps(t, x, 11, 9, 3)
	answers(t, "Delete", x.Delete(api.Span{Off: 4, Len: 2}, 1), true)
	overlaps(t, x, 4, 2)
	overlaps(t, x, 3, 4, 0, 2)
}

// Neither what lies around it nor what begins there has a sector in common with it.
func TestP14_2NoSectorAsked(t *testing.T) {
	a := of(t, rising(60)...)
	a.goes(t, a.insert, entry{api.Span{Len: most}, 1}, true)
	a.goes(t, a.insert, entry{api.Span{Off: most, Len: most}, 2}, true)
	for _, off := range []int{0, 1, 2, 3, 4, 5, 50, 99, 100, 200, most - 1, most} {
		overlaps(t, a.x, off, 0)
	}
}

// Each span among all small ones, which are taken out again one by one.
func TestP14_2EachSmallSpan(t *testing.T) {
	all := sample.SmallSpans(9)
	a := both()
	for i, s := range all {
		a.goes(t, a.insert, entry{s, 5 * (i % 7)}, s.Len > 0)
		a.finds(t, "put in", all...)
	}
	for i := range all {
		i = i * 32 % len(all)
		a.goes(t, a.remove, entry{all[i], 5 * (i % 7)}, all[i].Len > 0)
		a.finds(t, "taken out", all...)
	}
	ids(t, a.x)
}

// Twice the number of bits of Len + 1, behind every call, whatever the order.
func TestP14_2Height(t *testing.T) {
	ways := sample.WaysThrough[entry]()
	entries := rising(700)
	for in, put := range ways {
		for out, take := range ways {
			x := itree.New()
			bound := func(what string) {
				t.Helper()
				if h, n := x.Height(), x.Len(); h > 2*digits(n+1) || h < digits(n) {
					t.Fatalf("%s in, %s out, %s: Height %d of %d", in, out, what, h, n)
				}
			}
			for i, e := range put(entries) {
				if !x.Insert(e.s, e.id) || x.Len() != i+1 {
					t.Fatalf("Insert(%v), of %d: Len %d", e, i, x.Len())
				}
				bound("put in")
			}
			for i, e := range take(entries) {
				if !x.Delete(e.s, e.id) || x.Len() != 699-i {
					t.Fatalf("Delete(%v), of %d: Len %d", e, 700-i, x.Len())
				}
				bound("taken out")
			}
		}
	}
}

func TestP14_3FoundUntilTakenOut(t *testing.T) {
	all := slices.DeleteFunc(sample.SmallSpans(8), func(s api.Span) bool { return s.Len == 0 })
	x := itree.New()
	there := map[int]bool{}
	found := func() {
		t.Helper()
		for _, asked := range all {
			got := x.Overlaps(asked)
			for id, s := range all {
				if want := there[id] && sample.InBoth(s, asked); slices.Contains(got, id) != want {
					t.Fatalf("Overlaps(%v): %v; %d, %v, is among them: %v", asked, got, id, s, !want)
				}
				if there[id] && sample.InBoth(s, asked) && !x.Any(asked) {
					t.Fatalf("Any(%v): false, though %v is there", asked, s)
				}
			}
		}
	}
	for i := range all {
		id := i * 37 % len(all)
		x.Insert(all[id], id)
		there[id] = true
		found()
	}
	for i := range all {
		id := i * 25 % len(all)
		x.Delete(all[id], id)
		there[id] = false
		found()
	}
	ids(t, x)
}

// What reaches far beyond its neighbours is found from afar, and no longer when it is gone.
func TestP14_3ALongSpanAmongShortOnes(t *testing.T) {
	for _, at := range []int{0, 1, 50, 199, 398, 400} {
		a := both()
		for i := range 100 {
			a.goes(t, a.insert, entry{api.Span{Off: 4 * i, Len: 2}, i}, true)
		}
		long := entry{api.Span{Off: at, Len: most}, -1}
		var asked []api.Span
		for off := range 420 {
			asked = append(asked, api.Span{Off: off, Len: 1})
		}
		asked = append(asked, api.Span{Off: most - 1, Len: 1}, api.Span{Off: most, Len: most})
		for range 2 {
			a.goes(t, a.insert, long, true)
			a.finds(t, "with a long one", asked...)
			a.goes(t, a.remove, long, true)
			a.finds(t, "without it", asked...)
		}
	}
}

// A span that is not plain, or has no sector, does nothing, and meets nothing.
func TestP14_1WrongSpans(t *testing.T) {
	wrong := sample.NoSpans()
	for _, off := range []int{0, 1, 2, 3, 10, 11, 100, most - 1, most} {
		wrong = append(wrong, api.Span{Off: off})
	}
	full := of(t, sample.Mixed(rising(40))...)
	full.goes(t, full.insert, entry{api.Span{Len: most}, 0}, true)
	full.goes(t, full.insert, entry{api.Span{Off: most, Len: most}, 1}, true)
	for _, a := range []pair{both(), of(t, entry{api.Span{Off: 0, Len: 1}, 0}), full} {
		for _, s := range wrong {
			for _, id := range []int{0, 1, -1, 39, math.MinInt, math.MaxInt} {
				answers(t, fmt.Sprintf("Insert(%v, %d)", s, id), a.x.Insert(s, id), false)
				answers(t, fmt.Sprintf("Delete(%v, %d)", s, id), a.x.Delete(s, id), false)
			}
			overlaps(t, a.x, s.Off, s.Len)
			a.tells(t, "behind a wrong span")
		}
		a.finds(t, "behind wrong spans", sample.SmallSpans(9)...)
	}
}

// What is told is the caller's: to change, with its spare room, and to keep.
func TestR3Answers(t *testing.T) {
	for _, n := range []int{0, 1, 2, 3, 5, 30, 100} {
		a := of(t, rising(n)...)
		asked := api.Span{Off: 3, Len: 40}
		for what, tell := range map[string]func() []int{"Ids": a.x.Ids, "Overlaps": func() []int { return a.x.Overlaps(asked) }} {
			kept, changed, other := tell(), tell(), tell()
			was := slices.Clone(kept)
			changed = changed[:cap(changed)]
			for i := range changed {
				changed[i] = -7
			}
			_ = append(tell(), 1, 2, 3)
			if !slices.Equal(other, was) {
				t.Fatalf("of %d, %s: %v, is %v behind a change of another answer", n, what, was, other)
			}
			a.tells(t, "behind a change of what "+what+" told")
			a.finds(t, "behind a change of what "+what+" told", sample.SmallSpans(20)...)
			more := entry{api.Span{Off: 4, Len: 1}, -50}
			a.goes(t, a.insert, more, true)
			for _, e := range rising(n) {
				a.goes(t, a.remove, e, true)
			}
			if !slices.Equal(kept, was) {
				t.Fatalf("of %d, %s: %v, is %v behind other calls", n, what, was, kept)
			}
			a.goes(t, a.remove, more, true)
			for _, e := range rising(n) {
				a.goes(t, a.insert, e, true)
			}
		}
	}
}

func TestR4TreesGoTheirOwnWays(t *testing.T) {
	one, other := of(t, rising(20)...), of(t, sample.Falling(rising(30))...)
	for _, e := range sample.Mixed(rising(30)) {
		one.remove(t, e)
		other.tells(t, "the other")
		other.insert(t, entry{e.s, -e.id - 1})
		one.tells(t, "the one")
	}
	ids(t, one.x)
	if other.x.Len() != 60 {
		t.Errorf("Len of the other: %d", other.x.Len())
	}
}

func TestR5ATreeThatNoCallMade(t *testing.T) {
	list := append(sample.SmallSpans(4), sample.NoSpans()[:40]...)
	for _, x := range []*itree.Tree{nil, {}, new(itree.Tree)} {
		for _, s := range list {
			for _, id := range []int{0, 1, -1, math.MinInt, math.MaxInt} {
				answers(t, "Insert", x.Insert(s, id), false)
				answers(t, "Delete", x.Delete(s, id), false)
			}
			if got := x.Overlaps(s); got != nil || x.Any(s) {
				t.Errorf("Overlaps(%v): %v, Any: %v, want nil, false", s, got, x.Any(s))
			}
			if x.Len() != 0 || x.Ids() != nil || x.Height() != 0 {
				t.Errorf("Len %d, Ids %v, Height %d, want 0, nil, 0", x.Len(), x.Ids(), x.Height())
			}
		}
		if x != nil && fmt.Sprint(*x) != fmt.Sprint(itree.Tree{}) {
			t.Errorf("a Tree that no call made became %v", *x)
		}
	}
}
