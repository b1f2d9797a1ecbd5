package flight_test

import (
	"bytes"
	"fmt"
	"slices"
	"testing"

	"twain/api"
	"twain/clash"
	"twain/flight"
	"twain/sample"
)

// The states by the chapter's numbers.
const (
	isSent  = 0
	isAgain = 1
	isHeld  = 2
)

// at: a span.
func at(off, n int) api.Span { return api.Span{Off: off, Len: n} }

// write: a write of a ticket and a span, Sent, whose bytes are no other ticket's.
func write(ticket int, s api.Span) flight.Write {
	return flight.Write{Ticket: ticket, Span: s, Data: fmt.Appendf(nil, "of %d", ticket)}
}

// same: are the writes alike, byte by byte?
func same(a, b flight.Write) bool {
	return a.Ticket == b.Ticket && a.Span == b.Span && a.State == b.State && bytes.Equal(a.Data, b.Data)
}

// copied: the writes, with data of their own.
func copied(list []flight.Write) []flight.Write {
	list = slices.Clone(list)
	for i := range list {
		list[i].Data = bytes.Clone(list[i].Data)
	}
	return list
}

// plain is what Flights have by the chapter's words: a list that is kept by rising tickets.
type plain struct{ list []flight.Write }

// place: where the ticket stands in the list, or would stand, and whether it does.
func (p *plain) place(ticket int) (int, bool) {
	at := 0
	for at < len(p.list) && p.list[at].Ticket < ticket {
		at++
	}
	return at, at < len(p.list) && p.list[at].Ticket == ticket
}

func (p *plain) add(w flight.Write) bool {
	at, there := p.place(w.Ticket)
	s := w.Span
	may := s.Off >= 0 && s.Off <= sample.MostSectors && s.Len > 0 && s.Len <= sample.MostSectors
	if w.Ticket <= 0 || there || !may || p.busy(s) {
		return false
	}
	w.Data = bytes.Clone(w.Data)
	w.State = isSent
	p.list = slices.Insert(p.list, at, w)
	return true
}

func (p *plain) get(ticket int) (flight.Write, bool) {
	at, there := p.place(ticket)
	if !there {
		return flight.Write{}, false
	}
	return p.list[at], true
}

func (p *plain) turn(ticket, state int) bool {
	at, there := p.place(ticket)
	if !there || state < 0 || state > 2 {
		return false
	}
	p.list[at].State = state
	return true
}

func (p *plain) end(ticket int) bool {
	at, there := p.place(ticket)
	if there {
		p.list = slices.Delete(p.list, at, at+1)
	}
	return there
}

func (p *plain) busy(s api.Span) bool {
	for _, w := range p.list {
		if sample.InBoth(w.Span, s) {
			return true
		}
	}
	return false
}

func (p *plain) own() []clash.Own {
	var list []clash.Own
	for _, w := range p.list {
		list = append(list, clash.Own{Span: w.Span, Sent: w.State == isSent || w.State == isHeld})
	}
	return list
}

// extents: of each extent it is asked whether one of the writes has a sector of it.
func (p *plain) extents() uint64 {
	var set uint64
	for e := range 64 {
		if p.busy(at(4*e, 4)) {
			set += 1 << e
		}
	}
	return set
}

func (p *plain) tickets() []int {
	var list []int
	for _, w := range p.list {
		list = append(list, w.Ticket)
	}
	return list
}

// pair is Flights, and the plain list that they are held against.
type pair struct {
	f *flight.Flights
	p *plain
}

func both(t *testing.T) pair {
	t.Helper()
	a := pair{flight.New(), &plain{}}
	if a.f == nil {
		t.Fatal("New: nil")
	}
	a.tells(t, "new")
	return a
}

// of: a pair that has the writes, added one behind the other.
func of(t *testing.T, writes ...flight.Write) pair {
	t.Helper()
	a := both(t)
	for _, w := range writes {
		a.adds(t, w, true)
	}
	return a
}

// tells: do Len, List, Own, Extents and Get tell what the plain list has; Get of all that are there, of those beside them, and of those asked for?
func (a pair) tells(t *testing.T, what string, asked ...int) {
	t.Helper()
	if got, want := a.f.Len(), len(a.p.list); got != want {
		t.Fatalf("%s: Len %d, want %d", what, got, want)
	}
	if got := a.f.List(); !slices.EqualFunc(got, a.p.list, same) {
		t.Fatalf("%s: List %v, want %v", what, got, a.p.list)
	}
	if got, want := a.f.Own(), a.p.own(); !slices.Equal(got, want) {
		t.Fatalf("%s: Own %v, want %v", what, got, want)
	}
	if got, want := a.f.Extents(), a.p.extents(); got != want {
		t.Fatalf("%s: Extents %x, want %x", what, got, want)
	}
	for _, ticket := range a.p.tickets() {
		// What wraps is one that may be asked for, too.
		asked = append(asked, ticket, ticket-1, ticket+1)
	}
	for _, ticket := range asked {
		want, wantOk := a.p.get(ticket)
		if got, ok := a.f.Get(ticket); ok != wantOk || !same(got, want) {
			t.Fatalf("%s: Get(%d): %v, %v, want %v, %v", what, ticket, got, ok, want, wantOk)
		}
	}
}

// finds: does Busy tell what the plain list has, of each span asked for?
func (a pair) finds(t *testing.T, what string, asked ...api.Span) {
	t.Helper()
	for _, s := range asked {
		if got, want := a.f.Busy(s), a.p.busy(s); got != want {
			t.Fatalf("%s: Busy(%v): %v, want %v", what, s, got, want)
		}
	}
}

// added: what an Add answers, which is what the plain list answers, and all that is told behind it.
func (a pair) added(t *testing.T, w flight.Write) bool {
	t.Helper()
	what := fmt.Sprintf("of %v, Add(%d, %v, %d bytes)", a.p.tickets(), w.Ticket, w.Span, len(w.Data))
	want := a.p.add(w)
	if got := a.f.Add(w.Ticket, w.Span, w.Data); got != want {
		t.Fatalf("%s: %v, want %v", what, got, want)
	}
	a.tells(t, what, w.Ticket)
	a.finds(t, what, sample.NearSpans(w.Span)...)
	return want
}

// turned: what a Turn answers, which is what the plain list answers, and all that is told behind it.
func (a pair) turned(t *testing.T, ticket, state int) bool {
	t.Helper()
	what := fmt.Sprintf("of %v, Turn(%d, %d)", a.p.tickets(), ticket, state)
	want := a.p.turn(ticket, state)
	if got := a.f.Turn(ticket, state); got != want {
		t.Fatalf("%s: %v, want %v", what, got, want)
	}
	a.tells(t, what, ticket)
	return want
}

// ended: what an End answers, which is what the plain list answers, and all that is told behind it.
func (a pair) ended(t *testing.T, ticket int) bool {
	t.Helper()
	what := fmt.Sprintf("of %v, End(%d)", a.p.tickets(), ticket)
	was, _ := a.p.get(ticket)
	want := a.p.end(ticket)
	if got := a.f.End(ticket); got != want {
		t.Fatalf("%s: %v, want %v", what, got, want)
	}
	a.tells(t, what, ticket)
	a.finds(t, what, sample.NearSpans(was.Span)...)
	return want
}

// adds: an Add that is to answer that.
func (a pair) adds(t *testing.T, w flight.Write, want bool) {
	t.Helper()
	if got := a.added(t, w); got != want {
		t.Fatalf("of %v, Add(%d, %v): %v, want %v", a.p.tickets(), w.Ticket, w.Span, got, want)
	}
}

// turns: a Turn that is to answer that.
func (a pair) turns(t *testing.T, ticket, state int, want bool) {
	t.Helper()
	if got := a.turned(t, ticket, state); got != want {
		t.Fatalf("of %v, Turn(%d, %d): %v, want %v", a.p.tickets(), ticket, state, got, want)
	}
}

// ends: an End that is to answer that.
func (a pair) ends(t *testing.T, ticket int, want bool) {
	t.Helper()
	if got := a.ended(t, ticket); got != want {
		t.Fatalf("of %v, End(%d): %v, want %v", a.p.tickets(), ticket, got, want)
	}
}

// apart: do no two of those that are there overlap?
func apart(t *testing.T, f *flight.Flights) {
	t.Helper()
	list := f.List()
	for i, w := range list {
		for _, other := range list[:i] {
			if sample.InBoth(w.Span, other.Span) {
				t.Fatalf("%d of %v and %d of %v overlap", other.Ticket, other.Span, w.Ticket, w.Span)
			}
		}
	}
}

// beside: n writes by rising tickets and by rising spans, some of which stand right beside one another, of one to eight sectors.
func beside(n int) []flight.Write {
	list := make([]flight.Write, n)
	for i, off := 0, 0; i < n; i++ {
		s := at(off, 1+i%api.MaxLen)
		off += s.Len + i%3
		list[i] = write(2+3*i, s)
	}
	return list
}
