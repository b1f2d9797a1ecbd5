package later_test

import (
	"bytes"
	"fmt"
	"slices"
	"testing"

	"twain/api"
	"twain/clash"
	"twain/later"
	"twain/sample"
)

// at: a span.
func at(off, n int) api.Span { return api.Span{Off: off, Len: n} }

// sent: an own write that is Sent.
func sent(off, n int) clash.Own { return clash.Own{Span: at(off, n), Sent: true} }

// unsent: an own write that is not.
func unsent(off, n int) clash.Own { return clash.Own{Span: at(off, n)} }

// write: a write of an id and a span, whose bytes are no other id's.
func write(id int, s api.Span) later.Write {
	return later.Write{Id: id, Span: s, Data: fmt.Appendf(nil, "of %d", id)}
}

// beside: n writes of the ids 0 to n - 1, some right beside one another, of one to eight sectors.
func beside(n int) []later.Write {
	list := make([]later.Write, n)
	for i, off := 0, 0; i < n; i++ {
		s := at(off, 1+i%api.MaxLen)
		off += s.Len + i%3
		list[i] = write(i, s)
	}
	return list
}

// same: are the writes alike, byte by byte?
func same(a, b later.Write) bool {
	return a.Id == b.Id && a.Span == b.Span && bytes.Equal(a.Data, b.Data)
}

// isNone: is it the zero Write?
func isNone(w later.Write) bool { return same(w, later.Write{}) && w.Data == nil }

// ids: those of the writes, in their order.
func ids(list []later.Write) []int {
	var all []int
	for _, w := range list {
		all = append(all, w.Id)
	}
	return all
}

// keepWaiting: has one of own that is Sent a sector of s? By the chapters' words a write that comes to the node that is not the arbiter waits just then.
func keepWaiting(own []clash.Own, s api.Span) bool {
	return slices.ContainsFunc(own, func(o clash.Own) bool { return o.Sent && sample.InBoth(o.Span, s) })
}

// plain is what a Queue has by the chapter's words: a list, from which what goes is deleted.
type plain struct{ list []later.Write }

func (p *plain) push(w later.Write) {
	w.Data = bytes.Clone(w.Data)
	p.list = append(p.list, w)
}

func (p *plain) next(own []clash.Own) (later.Write, bool) {
	for i, w := range p.list {
		if !keepWaiting(own, w.Span) {
			p.list = slices.Delete(p.list, i, i+1)
			return w, true
		}
	}
	return later.Write{}, false
}

func (p *plain) spans() []api.Span {
	var list []api.Span
	for _, w := range p.list {
		list = append(list, w.Span)
	}
	return list
}

func (p *plain) over(s api.Span) bool {
	return slices.ContainsFunc(p.list, func(w later.Write) bool { return sample.InBoth(w.Span, s) })
}

// pair is a Queue, and the plain list that it is held against.
type pair struct {
	q *later.Queue
	p *plain
}

func both(t *testing.T) pair {
	t.Helper()
	a := pair{later.New(), &plain{}}
	if a.q == nil {
		t.Fatal("New: nil")
	}
	a.tells(t, "new")
	return a
}

// of: a pair in which the writes wait, pushed one behind the other.
func of(t *testing.T, writes ...later.Write) pair {
	t.Helper()
	a := both(t)
	for _, w := range writes {
		a.push(t, w)
	}
	return a
}

// tells: do Len and Spans tell what the plain list has?
func (a pair) tells(t *testing.T, what string) {
	t.Helper()
	if got, want := a.q.Len(), len(a.p.list); got != want {
		t.Fatalf("%s: Len %d, want %d", what, got, want)
	}
	if got, want := a.q.Spans(), a.p.spans(); !slices.Equal(got, want) {
		t.Fatalf("%s: Spans %v, want %v", what, got, want)
	}
}

// finds: does Over tell what the plain list has, of each span asked for?
func (a pair) finds(t *testing.T, what string, asked ...api.Span) {
	t.Helper()
	for _, s := range asked {
		if got, want := a.q.Over(s), a.p.over(s); got != want {
			t.Fatalf("%s: Over(%v): %v, want %v", what, s, got, want)
		}
	}
}

// push: a Push, which answers true, and all that is told behind it.
func (a pair) push(t *testing.T, w later.Write) {
	t.Helper()
	what := fmt.Sprintf("of %v, Push(%d, %v, %d bytes)", ids(a.p.list), w.Id, w.Span, len(w.Data))
	a.p.push(w)
	if !a.q.Push(w.Id, w.Span, w.Data) {
		t.Fatalf("%s: false", what)
	}
	a.tells(t, what)
	a.finds(t, what, sample.NearSpans(w.Span)...)
}

// next: what a Next answers, which is what the plain list answers, and all that is told behind it.
func (a pair) next(t *testing.T, own ...clash.Own) (later.Write, bool) {
	t.Helper()
	what := fmt.Sprintf("of %v, Next(%v)", a.p.list, own)
	want, wantOk := a.p.next(own)
	got, ok := a.q.Next(own)
	if ok != wantOk || !same(got, want) {
		t.Fatalf("%s: %v, %v, want %v, %v", what, got, ok, want, wantOk)
	}
	if !ok && !isNone(got) {
		t.Fatalf("%s: %v beside a false", what, got)
	}
	a.tells(t, what)
	a.finds(t, what, sample.NearSpans(got.Span)...)
	return got, ok
}

// goes: a Next by which that one is to go.
func (a pair) goes(t *testing.T, id int, own ...clash.Own) {
	t.Helper()
	if got, ok := a.next(t, own...); !ok || got.Id != id {
		t.Fatalf("Next(%v): %v, %v, want %d", own, got, ok, id)
	}
}

// stays: a Next by which none is to go.
func (a pair) stays(t *testing.T, own ...clash.Own) {
	t.Helper()
	if got, ok := a.next(t, own...); ok {
		t.Fatalf("Next(%v): %v, want none", own, got)
	}
}

// drained: the ids of all that go where no own write is on its way, one behind the other.
func (a pair) drained(t *testing.T) []int {
	t.Helper()
	var list []int
	for range len(a.p.list) {
		w, _ := a.next(t)
		list = append(list, w.Id)
	}
	a.stays(t)
	return list
}
