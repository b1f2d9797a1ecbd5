package itree_test

import (
	"fmt"
	"slices"
	"testing"

	"twain/api"
	"twain/itree"
	"twain/sample"
)

// most: the greatest Off and Len of a plain span.
const most = sample.MostSectors

// entry is a span under its id.
type entry struct {
	s  api.Span
	id int
}

// aheadOf: does a stand ahead of b: by Off, then Len, then the id?
func (a entry) aheadOf(b entry) bool {
	if a.s.Off != b.s.Off {
		return a.s.Off < b.s.Off
	}
	if a.s.Len != b.s.Len {
		return a.s.Len < b.s.Len
	}
	return a.id < b.id
}

// may: is s plain, and has it a sector?
func may(s api.Span) bool { return s.Off >= 0 && s.Off <= most && s.Len >= 1 && s.Len <= most }

// plain is what a tree has by the chapter's words: a list that is kept in order.
type plain struct{ list []entry }

// place: where the entry stands in the list, or would stand, and whether it does.
func (p *plain) place(e entry) (int, bool) {
	at := 0
	for at < len(p.list) && p.list[at].aheadOf(e) {
		at++
	}
	return at, at < len(p.list) && p.list[at] == e
}

func (p *plain) insert(e entry) bool {
	at, there := p.place(e)
	if there || !may(e.s) {
		return false
	}
	p.list = slices.Insert(p.list, at, e)
	return true
}

func (p *plain) remove(e entry) bool {
	at, there := p.place(e)
	if there {
		p.list = slices.Delete(p.list, at, at+1)
	}
	return there
}

func (p *plain) overlaps(s api.Span) []int {
	var ids []int
	for _, e := range p.list {
		if sample.InBoth(e.s, s) {
			ids = append(ids, e.id)
		}
	}
	return ids
}

func (p *plain) ids() []int {
	var ids []int
	for _, e := range p.list {
		ids = append(ids, e.id)
	}
	return ids
}

// digits: how many bits the number has, in binary.
func digits(n int) int {
	count := 0
	for n > 0 {
		n /= 2
		count++
	}
	return count
}

// pair is a tree, and the plain list that it is held against.
type pair struct {
	x *itree.Tree
	p *plain
}

func both() pair { return pair{itree.New(), &plain{}} }

// of: a pair that has the entries, put in one behind the other.
func of(t *testing.T, entries ...entry) pair {
	t.Helper()
	a := both()
	for _, e := range entries {
		a.insert(t, e)
	}
	return a
}

// tells: do Len, Ids and Height tell what the plain list has?
func (a pair) tells(t *testing.T, what string) {
	t.Helper()
	n := len(a.p.list)
	if got := a.x.Len(); got != n {
		t.Fatalf("%s: Len %d, want %d", what, got, n)
	}
	if got, want := a.x.Ids(), a.p.ids(); !slices.Equal(got, want) {
		t.Fatalf("%s: Ids %v, want %v", what, got, want)
	}
	// Below a span there are two ways at most, so fewer than so many on the longest one would have no room for all.
	if got := a.x.Height(); got < digits(n) || got > 2*digits(n+1) {
		t.Fatalf("%s: Height %d of %d spans", what, got, n)
	}
}

// finds: do Overlaps and Any tell what the plain list has, for each span asked for?
func (a pair) finds(t *testing.T, what string, asked ...api.Span) {
	t.Helper()
	for _, s := range asked {
		want := a.p.overlaps(s)
		if got := a.x.Overlaps(s); !slices.Equal(got, want) {
			t.Fatalf("%s: Overlaps(%v): %v, want %v", what, s, got, want)
		}
		if got := a.x.Any(s); got != (len(want) > 0) {
			t.Fatalf("%s: Any(%v): %v, want %v", what, s, got, len(want) > 0)
		}
	}
}

// insert: an Insert, and all that is told behind it.
func (a pair) insert(t *testing.T, e entry) bool {
	t.Helper()
	what := fmt.Sprintf("of %d, Insert(%v, %d)", len(a.p.list), e.s, e.id)
	want := a.p.insert(e)
	if got := a.x.Insert(e.s, e.id); got != want {
		t.Fatalf("%s: %v, want %v", what, got, want)
	}
	a.tells(t, what)
	a.finds(t, what, sample.NearSpans(e.s)...)
	return want
}

// remove: a Delete, and all that is told behind it.
func (a pair) remove(t *testing.T, e entry) bool {
	t.Helper()
	what := fmt.Sprintf("of %d, Delete(%v, %d)", len(a.p.list), e.s, e.id)
	want := a.p.remove(e)
	if got := a.x.Delete(e.s, e.id); got != want {
		t.Fatalf("%s: %v, want %v", what, got, want)
	}
	a.tells(t, what)
	a.finds(t, what, sample.NearSpans(e.s)...)
	return want
}

// goes: is the entry put in, or taken out, and was it not there ahead, or there?
func (a pair) goes(t *testing.T, call func(*testing.T, entry) bool, e entry, want bool) {
	t.Helper()
	if got := call(t, e); got != want {
		t.Fatalf("%v: %v, want %v", e, got, want)
	}
}

// rising: n entries in their order, some of which have a neighbour's Off, or its whole span; each Off ahead of which some end, and some do not.
func rising(n int) []entry {
	list := make([]entry, n)
	for i := range list {
		list[i] = entry{api.Span{Off: i / 3 * 5, Len: 3 + i%3/2*7}, i}
	}
	return list
}
