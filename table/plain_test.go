package table_test

import (
	"bytes"
	"fmt"
	"slices"
	"testing"

	"twain/api"
	"twain/table"
)

// entry is a request under its ticket.
type entry struct {
	ticket int
	r      api.Request
}

// plain is what a table has by the chapter's words: a list that is kept by rising tickets.
type plain struct {
	most int
	list []entry
}

// place: where the ticket stands in the list, or would stand, and whether it does.
func (p *plain) place(ticket int) (int, bool) {
	at := 0
	for at < len(p.list) && p.list[at].ticket < ticket {
		at++
	}
	return at, at < len(p.list) && p.list[at].ticket == ticket
}

func (p *plain) add(e entry) api.Errno {
	at, there := p.place(e.ticket)
	if e.ticket <= 0 || there {
		return api.ErrArg
	}
	if len(p.list) == p.most {
		return api.ErrFull
	}
	e.r.Data = slices.Clone(e.r.Data)
	p.list = slices.Insert(p.list, at, e)
	return api.OK
}

func (p *plain) get(ticket int) (api.Request, bool) {
	at, there := p.place(ticket)
	if !there {
		return api.Request{}, false
	}
	return p.list[at].r, true
}

func (p *plain) remove(ticket int) bool {
	at, there := p.place(ticket)
	if there {
		p.list = slices.Delete(p.list, at, at+1)
	}
	return there
}

func (p *plain) tickets() []int {
	var list []int
	for _, e := range p.list {
		list = append(list, e.ticket)
	}
	return list
}

// same: are the requests alike, byte by byte?
func same(a, b api.Request) bool {
	return a.Kind == b.Kind && a.Span == b.Span && bytes.Equal(a.Data, b.Data)
}

// pair is a table, and the plain list that it is held against.
type pair struct {
	x *table.Table
	p *plain
}

// made: a new table for most requests.
func made(t *testing.T, most int) *table.Table {
	t.Helper()
	x, e := table.New(most)
	if x == nil || e != api.OK {
		t.Fatalf("New(%d): %v, %v", most, x, e)
	}
	return x
}

func both(t *testing.T, most int) pair {
	t.Helper()
	a := pair{made(t, most), &plain{most: most}}
	a.tells(t, "new")
	return a
}

// of: a pair that has the entries, added one behind the other.
func of(t *testing.T, most int, entries ...entry) pair {
	t.Helper()
	a := both(t, most)
	for _, e := range entries {
		a.add(t, e, api.OK)
	}
	return a
}

// tells: do Len, Full, Tickets and Get tell what the plain list has, of all that are there, of those beside them, and of those asked for?
func (a pair) tells(t *testing.T, what string, asked ...int) {
	t.Helper()
	n := len(a.p.list)
	if got, full := a.x.Len(), a.x.Full(); got != n || full != (n == a.p.most) {
		t.Fatalf("%s, most %d: Len %d, Full %v, want %d, %v", what, a.p.most, got, full, n, n == a.p.most)
	}
	want := a.p.tickets()
	if got := a.x.Tickets(); !slices.Equal(got, want) {
		t.Fatalf("%s, most %d: Tickets %v, want %v", what, a.p.most, got, want)
	}
	for _, ticket := range want {
		// What wraps is one that may be asked for, too.
		asked = append(asked, ticket, ticket-1, ticket+1)
	}
	for _, ticket := range asked {
		want, wantOk := a.p.get(ticket)
		if got, ok := a.x.Get(ticket); ok != wantOk || !same(got, want) {
			t.Fatalf("%s, most %d: Get(%d): %v, %v, want %v, %v", what, a.p.most, ticket, got, ok, want, wantOk)
		}
	}
}

// added: what an Add answers, which is what the plain list answers, and all that is told behind it.
func (a pair) added(t *testing.T, e entry) api.Errno {
	t.Helper()
	what := fmt.Sprintf("of %v, Add(%d, kind %d of %v with %d bytes)", a.p.tickets(), e.ticket, e.r.Kind, e.r.Span, len(e.r.Data))
	want := a.p.add(e)
	if got := a.x.Add(e.ticket, e.r); got != want {
		t.Fatalf("%s, most %d: %v, want %v", what, a.p.most, got, want)
	}
	a.tells(t, what, e.ticket)
	return want
}

// removed: what a Remove answers, which is what the plain list answers, and all that is told behind it.
func (a pair) removed(t *testing.T, ticket int) bool {
	t.Helper()
	what := fmt.Sprintf("of %v, Remove(%d)", a.p.tickets(), ticket)
	want := a.p.remove(ticket)
	if got := a.x.Remove(ticket); got != want {
		t.Fatalf("%s, most %d: %v, want %v", what, a.p.most, got, want)
	}
	a.tells(t, what, ticket)
	return want
}

// add: an Add that is to answer that.
func (a pair) add(t *testing.T, e entry, want api.Errno) {
	t.Helper()
	if got := a.added(t, e); got != want {
		t.Fatalf("of %v, Add(%d, %v), most %d: %v, want %v", a.p.tickets(), e.ticket, e.r, a.p.most, got, want)
	}
}

// remove: a Remove that is to answer that.
func (a pair) remove(t *testing.T, ticket int, want bool) {
	t.Helper()
	if got := a.removed(t, ticket); got != want {
		t.Fatalf("Remove(%d), most %d: %v, want %v", ticket, a.p.most, got, want)
	}
}
