package flight_test

import (
	"bytes"
	"math"
	"slices"
	"testing"

	"twain/api"
	"twain/clash"
	"twain/flight"
	"twain/sample"
)

// They are plain numbers, as the chapter writes them: a byte can be one, too.
func TestP24_1TheStatesNumbers(t *testing.T) {
	if got := [3]byte{flight.Sent, flight.Again, flight.Held}; got != [3]byte{0, 1, 2} {
		t.Errorf("Sent, Again, Held: %v", got)
	}
}

func TestP24_1Example(t *testing.T) {
	f := flight.New()
	if !f.Add(1, at(0, 2), []byte("one")) {
		t.Error("Add(1, (0, 2)): false")
	}
	if f.Add(2, at(1, 2), []byte("two")) {
		t.Error("Add(2, (1, 2)), which overlaps it: true")
	}
	if w, ok := f.Get(1); !ok || w.Ticket != 1 || w.Span != at(0, 2) || string(w.Data) != "one" || w.State != flight.Sent {
		t.Errorf("Get(1): %v, %v", w, ok)
	}
	if w, ok := f.Get(2); ok || !same(w, flight.Write{}) {
		t.Errorf("Get(2): %v, %v, want none", w, ok)
	}
	if f.Len() != 1 || f.Extents() != 1 || !f.Busy(at(1, 2)) || f.Busy(at(2, 1)) {
		t.Errorf("Len %d, Extents %d, Busy (1, 2): %v, Busy (2, 1): %v", f.Len(), f.Extents(), f.Busy(at(1, 2)), f.Busy(at(2, 1)))
	}
}

func TestP24_1None(t *testing.T) {
	a := both(t)
	// Emptied, they are as they were.
	for range 2 {
		a.finds(t, "of none", slices.Concat(sample.Spans(), sample.NoSpans())...)
		for _, ticket := range slices.Concat(sample.Tickets(), sample.NoTickets()) {
			a.ends(t, ticket, false)
			for state := range 3 {
				a.turns(t, ticket, state, false)
			}
		}
		if a.f.Len() != 0 || a.f.Extents() != 0 || len(a.f.List()) != 0 || len(a.f.Own()) != 0 {
			t.Fatalf("of none: Len %d, Extents %x, List %v, Own %v", a.f.Len(), a.f.Extents(), a.f.List(), a.f.Own())
		}
		a.adds(t, write(7, at(3, 2)), true)
		a.ends(t, 7, true)
	}
}

// Each plain span alone; it may be, if it has a sector.
func TestP24_1OneWrite(t *testing.T) {
	for _, s := range sample.Spans() {
		a := both(t)
		a.adds(t, write(5, s), s.Len > 0)
		a.finds(t, "of one", sample.Spans()...)
		a.finds(t, "of one", sample.NoSpans()...)
		a.adds(t, write(6, s), false)
		a.ends(t, 6, false)
		a.ends(t, 5, s.Len > 0)
		a.adds(t, write(6, s), s.Len > 0)
	}
}

// To none, and to some: with a span that is free, and with one that is not.
func TestP24_1WrongTickets(t *testing.T) {
	for _, a := range []pair{both(t), of(t, write(1, at(0, 2))), of(t, beside(20)...)} {
		for _, ticket := range sample.NoTickets() {
			a.adds(t, write(ticket, at(200, 4)), false)
			a.adds(t, write(ticket, at(0, 1)), false)
			a.ends(t, ticket, false)
			for state := range 3 {
				a.turns(t, ticket, state, false)
			}
		}
		// The span that they were to have is free.
		a.adds(t, write(1000, at(200, 4)), true)
	}
}

func TestP24_1TicketsAtTheEnds(t *testing.T) {
	for _, put := range sample.WaysThrough[int]() {
		for _, take := range sample.WaysThrough[int]() {
			a := both(t)
			for i, ticket := range put(sample.Tickets()) {
				a.adds(t, write(ticket, at(8*i, 8)), true)
				a.turns(t, ticket, i%3, true)
				a.adds(t, write(ticket, at(1000, 1)), false)
			}
			for _, ticket := range take(sample.Tickets()) {
				a.ends(t, ticket, true)
				a.ends(t, ticket, false)
			}
		}
	}
}

// The one that is there stays as it was, whatever is added under its ticket: a free span, its own one, and another one's.
func TestP24_1ATicketThatIsThere(t *testing.T) {
	for _, ticket := range sample.Tickets() {
		for state := range 3 {
			a := of(t, write(ticket, at(4, 4)), write(9, at(12, 2)))
			a.turns(t, ticket, state, true)
			for _, s := range []api.Span{at(0, 4), at(8, 4), at(4, 4), at(4, 1), at(0, 5), at(12, 2), at(0, 100), at(0, 0), at(-1, 1)} {
				a.adds(t, flight.Write{Ticket: ticket, Span: s, Data: []byte("another")}, false)
			}
			a.ends(t, ticket, true)
			a.adds(t, flight.Write{Ticket: ticket, Span: at(8, 4), Data: []byte("another")}, true)
			// What it was turned to ended with it.
			if w, ok := a.f.Get(ticket); !ok || w.State != isSent || w.Span != at(8, 4) || string(w.Data) != "another" {
				t.Errorf("Get(%d): %v, %v, want what was added last, Sent", ticket, w, ok)
			}
		}
	}
}

// Spans that are not plain, and those of no sector: free or not, to none, to few and to many.
func TestP24_1SpansThatMayNotBe(t *testing.T) {
	for _, a := range []pair{both(t), of(t, write(3, at(0, 1))), of(t, write(3, at(0, sample.MostSectors))), of(t, beside(30)...)} {
		n := a.f.Len()
		for _, s := range sample.NoSpans() {
			a.adds(t, write(1000, s), false)
		}
		for _, off := range []int{0, 1, 2, 3, 100, 255, 256, 257, sample.MostSectors - 1, sample.MostSectors} {
			a.adds(t, write(1000, at(off, 0)), false)
		}
		for _, s := range []api.Span{at(-1, 1), at(-1, 2), at(0, -1), at(4, -4), at(sample.MostSectors+1, 1), at(0, sample.MostSectors+1), at(math.MinInt, math.MinInt), at(math.MinInt, math.MaxInt), at(math.MaxInt, 1), at(math.MaxInt, math.MaxInt), at(1, math.MaxInt), at(1, math.MinInt)} {
			a.adds(t, write(1000, s), false)
		}
		if a.f.Len() != n {
			t.Errorf("%d became %d", n, a.f.Len())
		}
	}
}

// The greatest spans that may be, beside one another and not.
func TestP24_1TheGreatestSpans(t *testing.T) {
	const most = sample.MostSectors
	a := of(t, write(1, at(0, most)), write(2, at(most, most)))
	for _, s := range []api.Span{at(0, 1), at(most-1, 1), at(most, 1), at(most, most), at(most/2, most)} {
		a.adds(t, write(3, s), false)
	}
	a.ends(t, 1, true)
	a.adds(t, write(3, at(1, most)), false)
	a.adds(t, write(3, at(1, most-1)), true)
	a.adds(t, write(4, at(0, 1)), true)
	a.ends(t, 2, true)
	a.adds(t, write(2, at(most-1, 2)), false)
	a.adds(t, write(2, at(most, 1)), true)
}

// What a second write of each span is to one of the sectors 10 to 14, and to two with one sector between them.
func TestP24_1SpansThatOverlap(t *testing.T) {
	for _, c := range []struct {
		s    api.Span
		want bool
	}{
		// The very same, those that it holds, and those that hold it.
		{at(10, 5), false},
		{at(10, 4), false},
		{at(11, 4), false},
		{at(11, 3), false},
		{at(12, 1), false},
		{at(10, 6), false},
		{at(9, 6), false},
		{at(9, 7), false},
		{at(0, 99), false},
		// At one sector alone: at either end.
		{at(14, 1), false},
		{at(14, 8), false},
		{at(10, 1), false},
		{at(3, 8), false},
		{at(9, 2), false},
		// It ends where that begins, and begins where that ends; and there is room between.
		{at(2, 8), true},
		{at(9, 1), true},
		{at(15, 1), true},
		{at(15, 8), true},
		{at(0, 9), true},
		{at(16, 8), true},
	} {
		for _, ticket := range []int{1, 9} {
			a := of(t, write(5, at(10, 5)))
			a.adds(t, write(ticket, c.s), c.want)
		}
	}
	for _, c := range []struct {
		s    api.Span
		want bool
	}{{at(12, 1), true}, {at(12, 2), false}, {at(11, 2), false}, {at(11, 3), false}, {at(10, 5), false}, {at(0, 99), false}, {at(12, 0), false}} {
		a := of(t, write(5, at(10, 2)), write(6, at(13, 2)))
		a.adds(t, write(7, c.s), c.want)
	}
}

// Each pair of small spans: the second one is there just if they have no sector in common.
func TestP24_1EachPairOfSpans(t *testing.T) {
	for _, s := range sample.SmallSpans(8) {
		for _, other := range sample.SmallSpans(8) {
			a := both(t)
			a.adds(t, write(2, s), s.Len > 0)
			a.adds(t, write(1, other), other.Len > 0 && !sample.InBoth(s, other))
			apart(t, a.f)
		}
	}
}

// Flights do not ask which data a write may have: they have a copy of it.
func TestP24_1Data(t *testing.T) {
	for i, data := range append(sample.Lists(), sample.Bytes(api.SectorSize*api.MaxLen), sample.Bytes(1<<16), make([]byte, 1<<20)) {
		a := of(t, flight.Write{Ticket: 3, Span: at(4*i, 4), Data: data}, flight.Write{Ticket: 4, Span: at(4*i+4, 1), Data: nil})
		if w, ok := a.f.Get(3); !ok || !bytes.Equal(w.Data, data) {
			t.Errorf("Get: %d bytes, %v, want %d", len(w.Data), ok, len(data))
		}
		a.turns(t, 3, isAgain, true)
		a.ends(t, 4, true)
		a.adds(t, flight.Write{Ticket: 4, Span: at(0, 1), Data: data}, i > 0)
		a.ends(t, 3, true)
	}
}

// A span that was freed can be added again: under the same ticket, under a lesser and a greater one; a part of it, and what reaches beyond it.
func TestP24_1FreedByEnd(t *testing.T) {
	for _, ticket := range []int{4, 6, 9} {
		for _, s := range []api.Span{at(8, 4), at(8, 1), at(11, 1), at(9, 2), at(7, 6), at(0, 20)} {
			a := of(t, write(6, at(8, 4)), write(5, at(30, 2)))
			a.adds(t, write(9, s), false)
			a.ends(t, 6, true)
			a.finds(t, "freed", s)
			a.adds(t, write(ticket, s), true)
			a.adds(t, write(ticket+1, at(8, 4)), false)
			a.ends(t, ticket, true)
			a.adds(t, write(6, at(8, 4)), true)
		}
	}
}

func TestP24_1Get(t *testing.T) {
	a := of(t, beside(12)...)
	for _, w := range beside(12) {
		if got, ok := a.f.Get(w.Ticket); !ok || !same(got, w) {
			t.Errorf("Get(%d): %v, %v, want %v", w.Ticket, got, ok, w)
		}
	}
	a.ends(t, 5, true)
	for _, ticket := range append(sample.NoTickets(), 1, 3, 4, 5, 1000, 1<<32+2, 1<<32+8, math.MaxInt) {
		if got, ok := a.f.Get(ticket); ok || !same(got, flight.Write{}) || got.Data != nil {
			t.Errorf("Get(%d): %v, %v, want none", ticket, got, ok)
		}
	}
}

// From each state to each, of one of several: its state alone is another one.
func TestP24_1Turn(t *testing.T) {
	for n := range 6 {
		for from := range 3 {
			for to := range 3 {
				a := of(t, beside(6)...)
				ticket := beside(6)[n].Ticket
				a.turns(t, ticket, from, true)
				a.turns(t, ticket, to, true)
				if w, _ := a.f.Get(ticket); w.State != to {
					t.Errorf("turned from %d to %d: %d", from, to, w.State)
				}
				a.turns(t, ticket, to, true)
			}
		}
	}
}

// One below the three, one above, at both ends of an int, and with the low bits of one of them.
func TestP24_1TurnToNoState(t *testing.T) {
	for state := range 3 {
		a := of(t, beside(4)...)
		for _, w := range beside(4) {
			a.turns(t, w.Ticket, state, true)
			for _, no := range append(sample.Ends(), -1, -2, -3, 3, 4, 255, 256, 257, 258, 1<<16, 1<<16+1) {
				a.turns(t, w.Ticket, no, false)
			}
		}
	}
}

func TestP24_1TurnAndEndOfNone(t *testing.T) {
	a := of(t, beside(9)...)
	a.ends(t, 8, true)
	for _, ticket := range append(sample.NoTickets(), 1, 3, 4, 8, 1000, 1<<32+2, 1<<32+5, math.MaxInt) {
		for _, state := range append(sample.Ends(), -1, 0, 1, 2, 3) {
			a.turns(t, ticket, state, false)
		}
		a.ends(t, ticket, false)
	}
}

// The first, the last and one between, in each state, twice.
func TestP24_1End(t *testing.T) {
	for n := 1; n <= 7; n++ {
		for i := range n {
			for state := range 3 {
				a := of(t, beside(n)...)
				ticket := beside(n)[i].Ticket
				a.turns(t, ticket, state, true)
				a.ends(t, ticket, true)
				a.ends(t, ticket, false)
				a.turns(t, ticket, isSent, false)
				if a.f.Len() != n-1 {
					t.Errorf("of %d: Len %d", n, a.f.Len())
				}
			}
		}
	}
}

// What is busy of the sectors 4 to 7, 8 and 12 to 13, which three writes have.
func TestP24_2Busy(t *testing.T) {
	a := of(t, write(3, at(12, 2)), write(1, at(8, 1)), write(2, at(4, 4)))
	for _, c := range []struct {
		s    api.Span
		want bool
	}{
		// One of them: the very same, a part, more than it, and at one sector alone.
		{at(4, 4), true}, {at(8, 1), true}, {at(12, 2), true}, {at(5, 1), true}, {at(0, 5), true}, {at(7, 1), true}, {at(13, 9), true}, {at(11, 2), true}, {at(9, 4), true},
		// Several.
		{at(7, 2), true}, {at(8, 5), true}, {at(4, 10), true}, {at(0, sample.MostSectors), true},
		// None, beside one and between two.
		{at(0, 4), false}, {at(3, 1), false}, {at(9, 3), false}, {at(9, 1), false}, {at(11, 1), false}, {at(14, 1), false}, {at(14, sample.MostSectors), false}, {at(sample.MostSectors, 1), false},
		// Spans that may not be.
		{at(5, 0), false}, {at(4, 0), false}, {at(0, 0), false}, {at(-1, 99), false}, {at(5, -1), false}, {at(8, -3), false}, {at(0, sample.MostSectors+1), false}, {at(math.MaxInt, math.MaxInt), false}, {at(0, math.MaxInt), false}, {at(math.MinInt, math.MaxInt), false}, {at(math.MinInt, math.MinInt), false},
	} {
		if got := a.f.Busy(c.s); got != c.want {
			t.Errorf("Busy(%v): %v, want %v", c.s, got, c.want)
		}
	}
	a.finds(t, "of three", slices.Concat(sample.SmallSpans(20), sample.Spans(), sample.NoSpans())...)
	// Whatever their states are.
	for state := range 3 {
		for ticket := 1; ticket <= 3; ticket++ {
			a.turns(t, ticket, state, true)
			a.finds(t, "turned", sample.SmallSpans(20)...)
		}
	}
}

// Whatever the order of the Adds, and of the Ends behind them, and whichever span has which ticket.
func TestP24_2ListAndOwnRise(t *testing.T) {
	five := []flight.Write{write(1, at(20, 2)), write(9, at(3, 1)), write(10, at(0, 3)), write(1<<32, at(8, 8)), write(math.MaxInt, at(4, 4))}
	orders := sample.Orders(len(five))
	for i, in := range orders {
		f := flight.New()
		for _, n := range in {
			f.Add(five[n].Ticket, five[n].Span, five[n].Data)
		}
		gone := map[int]int{}
		for _, n := range orders[(i*7+5)%len(orders)] {
			want := slices.DeleteFunc(slices.Clone(five), func(w flight.Write) bool { return gone[w.Ticket] > 0 })
			if got := f.List(); !slices.EqualFunc(got, want, same) {
				t.Fatalf("added in the order %v, %v ended: List %v, want %v", in, gone, got, want)
			}
			own := f.Own()
			if !slices.EqualFunc(own, want, func(o clash.Own, w flight.Write) bool { return o.Sent && o.Span == w.Span }) {
				t.Fatalf("added in the order %v, %v ended: Own %v, want those of %v", in, gone, own, want)
			}
			f.End(five[n].Ticket)
			gone[five[n].Ticket]++
		}
		if f.Len() != 0 || len(f.List()) != 0 || len(f.Own()) != 0 {
			t.Fatalf("all ended: Len %d, List %v, Own %v", f.Len(), f.List(), f.Own())
		}
	}
}

// Sent is told of one that is Sent, and of one that is Held.
func TestP24_2OwnInEachState(t *testing.T) {
	for _, states := range sample.Rows([]int{isSent, isAgain, isHeld}, 4) {
		a := of(t, beside(len(states))...)
		var want []clash.Own
		for i, state := range states {
			w := beside(len(states))[i]
			a.turns(t, w.Ticket, state, true)
			want = append(want, clash.Own{Span: w.Span, Sent: state != 1})
		}
		if got := a.f.Own(); !slices.Equal(got, want) {
			t.Errorf("in the states %v: Own %v, want %v", states, got, want)
		}
	}
}

// Examples 3 and 4 of the whole, by what layer 23 makes of Own.
func TestP24_2OwnIsWhatClashAsksFor(t *testing.T) {
	arbiter, other := of(t, write(7, at(0, 4))), of(t, write(8, at(3, 2)))
	if got := clash.Verdict(true, arbiter.f.Own(), at(1, 2)); got != clash.Over {
		t.Errorf("(1, 2) at the arbiter, which writes (0, 4): %s", clash.Name(got))
	}
	if got := clash.Verdict(true, arbiter.f.Own(), at(3, 2)); got != clash.Retry {
		t.Errorf("(3, 2) at the arbiter, which writes (0, 4): %s", clash.Name(got))
	}
	for state, want := range []int{clash.Later, clash.Apply, clash.Later} {
		other.turns(t, 8, state, true)
		if got := clash.Verdict(false, other.f.Own(), at(0, 4)); got != want {
			t.Errorf("(0, 4) at the other node, whose write of (3, 2) is in state %d: %s, want %s", state, clash.Name(got), clash.Name(want))
		}
	}
}

// Within one extent, over several, at both ends of the extents, and beyond them.
func TestP24_2Extents(t *testing.T) {
	const most = sample.MostSectors
	for _, c := range []struct {
		spans []api.Span
		want  uint64
	}{
		{nil, 0},
		{[]api.Span{at(0, 1)}, 1},
		{[]api.Span{at(0, 4)}, 1},
		{[]api.Span{at(3, 1)}, 1},
		{[]api.Span{at(4, 1)}, 2},
		{[]api.Span{at(3, 2)}, 3},
		{[]api.Span{at(3, 6)}, 7},
		{[]api.Span{at(0, 1), at(1, 1), at(2, 2)}, 1},
		{[]api.Span{at(0, 1), at(8, 1)}, 5},
		{[]api.Span{at(3, 2), at(5, 4), at(20, 4)}, 1 | 2 | 4 | 1<<5},
		{[]api.Span{at(251, 1)}, 1 << 62},
		{[]api.Span{at(252, 4)}, 1 << 63},
		{[]api.Span{at(255, 1)}, 1 << 63},
		{[]api.Span{at(251, 2), at(0, 1)}, 3<<62 | 1},
		{[]api.Span{at(255, 8)}, 1 << 63},
		{[]api.Span{at(256, 1)}, 0},
		{[]api.Span{at(256, 8), at(4, 4), at(most, most)}, 2},
		{[]api.Span{at(0, 256)}, math.MaxUint64},
		{[]api.Span{at(0, most)}, math.MaxUint64},
		{[]api.Span{at(4, most)}, math.MaxUint64 - 1},
		{[]api.Span{at(0, 128), at(128, 128)}, math.MaxUint64},
	} {
		a := both(t)
		for i, s := range c.spans {
			a.adds(t, write(i+1, s), true)
		}
		if got := a.f.Extents(); got != c.want {
			t.Errorf("Extents of %v: %x, want %x", c.spans, got, c.want)
		}
		for i := range c.spans {
			a.turns(t, i+1, (i+1)%3, true)
		}
		if got := a.f.Extents(); got != c.want {
			t.Errorf("Extents of %v, turned: %x, want %x", c.spans, got, c.want)
		}
	}
}

// An extent that two have is told until both ended.
func TestP24_2ExtentsBehindEnds(t *testing.T) {
	a := of(t, write(1, at(0, 2)), write(2, at(2, 3)), write(3, at(5, 1)))
	for _, c := range []struct {
		ticket int
		want   uint64
	}{{1, 3}, {2, 2}, {3, 0}} {
		a.ends(t, c.ticket, true)
		if got := a.f.Extents(); got != c.want {
			t.Errorf("Extents, %d ended: %x, want %x", c.ticket, got, c.want)
		}
	}
}

func TestP24_2Len(t *testing.T) {
	f := flight.New()
	is := func(what string, want int) {
		t.Helper()
		if got := f.Len(); got != want {
			t.Errorf("Len behind %s: %d, want %d", what, got, want)
		}
	}
	is("New", 0)
	f.Add(3, at(0, 2), nil)
	is("an Add", 1)
	f.Add(3, at(5, 2), nil)
	is("an Add of its ticket", 1)
	f.Add(4, at(1, 2), nil)
	is("an Add that overlaps it", 1)
	f.Add(0, at(5, 2), nil)
	is("an Add of the ticket 0", 1)
	f.Add(4, at(5, 0), nil)
	is("an Add of no sector", 1)
	f.Add(4, at(5, 1), nil)
	is("a second Add", 2)
	f.Turn(4, flight.Held)
	is("a Turn", 2)
	f.Get(4)
	f.List()
	f.Busy(at(0, 9))
	is("what asks only", 2)
	f.End(5)
	is("an End of none", 2)
	f.End(3)
	is("an End", 1)
	f.End(3)
	is("it again", 1)
	f.End(4)
	is("the last End", 0)
}
