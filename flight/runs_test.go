package flight_test

import (
	"reflect"
	"runtime"
	"slices"
	"testing"

	"twain/api"
	"twain/flight"
	"twain/sample"
)

// Each row of five steps, of Adds of few tickets and spans, and of Ends and Turns.
func TestP24_1AllShortRuns(t *testing.T) {
	add := func(ticket, off, n int) func(pair) {
		return func(a pair) { a.added(t, write(ticket, at(off, n))); apart(t, a.f) }
	}
	sample.AllRuns(5, func() pair { return both(t) }, []func(pair){
		add(1, 0, 2),
		add(2, 1, 2),
		add(2, 2, 1),
		add(3, 0, 5),
		func(a pair) { a.ended(t, 1) },
		func(a pair) { a.ended(t, 2) },
		func(a pair) { a.ended(t, 3); a.turned(t, 1, isHeld) },
		func(a pair) { a.turned(t, 2, isAgain); a.turned(t, 3, isAgain) },
	})
}

// None to many, added in each order of tickets with each order of spans, and ended in each order; and then once more.
func TestP24_2NoneToMany(t *testing.T) {
	for _, n := range []int{0, 1, 2, 3, 10, 60} {
		for _, ofTickets := range sample.WaysThrough[flight.Write]() {
			for _, ofSpans := range sample.WaysThrough[flight.Write]() {
				for _, take := range sample.WaysThrough[flight.Write]() {
					writes, spans := ofTickets(beside(n)), ofSpans(beside(n))
					for i := range writes {
						writes[i].Span = spans[i].Span
					}
					cameAndWent(t, writes, take(writes))
				}
			}
		}
	}
}

// cameAndWent: all of the writes are added, turned and ended, twice.
func cameAndWent(t *testing.T, in, out []flight.Write) {
	t.Helper()
	a := both(t)
	for range 2 {
		for i, w := range in {
			a.adds(t, w, true)
			a.turns(t, w.Ticket, i%3, true)
		}
		apart(t, a.f)
		for _, w := range out {
			a.ends(t, w.Ticket, true)
		}
		if a.f.Len() != 0 || a.f.Extents() != 0 {
			t.Fatalf("all ended: Len %d, Extents %x", a.f.Len(), a.f.Extents())
		}
	}
}

// chosen: the write that a word chooses, of so many tickets and sectors.
func chosen(w uint64, tickets, sectors int) flight.Write {
	return write(int(w>>40%uint64(tickets+1)), sample.ChosenSpan(w, sectors))
}

// Adds, Turns and Ends in turn, without a pattern, of few tickets and sectors that come again and of many: what was refused changed nothing, and no two ever overlap.
func TestP24_3LongRuns(t *testing.T) {
	words := sample.Words()
	for _, c := range []struct{ tickets, sectors int }{{2, 6}, {5, 16}, {16, 64}, {40, api.MaxSectors}, {1 << 20, 1000}, {1 << 20, sample.MostSectors}} {
		a := both(t)
		met := map[string]int{}
		for i, w := range words {
			x := chosen(w, c.tickets, c.sectors)
			ticket := x.Ticket
			if list := a.p.tickets(); w>>60 < 12 && len(list) > 0 {
				ticket = list[w>>16%uint64(len(list))]
			}
			// More are added than ended, then more ended than added.
			adds := w%8 < 5
			if i/300%2 == 1 {
				adds = w%8 < 1
			}
			switch {
			case adds && a.added(t, x):
				met["added"]++
			case adds:
				met["refused"]++
			case w>>4%4 == 0 && a.turned(t, ticket, int(w>>50%5)-1):
				met["turned"]++
			case w>>4%4 > 0 && a.ended(t, ticket):
				met["ended"]++
			}
			a.finds(t, "behind a step", sample.ChosenSpan(w>>3^w<<20, c.sectors), sample.ChosenSpan(w>>5^w<<11, c.sectors))
			apart(t, a.f)
		}
		if met["added"] < 30 || met["refused"] < 30 || met["turned"] < 30 || met["ended"] < 30 {
			t.Errorf("of %d tickets and %d sectors: %v", c.tickets, c.sectors, met)
		}
	}
}

// Each sector has one write at most, by a count of the sectors alone: it is given out by an Add that answers true, and free again behind the End of its ticket.
func TestP24_3EachSectorHasOneWrite(t *testing.T) {
	const sectors = 24
	f := flight.New()
	var who [sectors]int // 0: it is free
	for _, w := range sample.Words() {
		ticket, s := 1+int(w>>40%9), at(int(w>>8%sectors), 1+int(w>>24%4))
		s.Len = min(s.Len, sectors-s.Off)
		if w%8 < 3 {
			if f.End(ticket) != slices.Contains(who[:], ticket) {
				t.Fatalf("End(%d), where the sectors are %v's", ticket, who)
			}
			for i := range who {
				if who[i] == ticket {
					who[i] = 0
				}
			}
			continue
		}
		row := who[s.Off:][:s.Len]
		want := slices.Max(row) == 0 && !slices.Contains(who[:], ticket)
		if busy := f.Busy(s); busy != (slices.Max(row) > 0) {
			t.Fatalf("Busy(%v): %v, where the sectors are %v's", s, busy, who)
		}
		if got := f.Add(ticket, s, nil); got != want {
			t.Fatalf("Add(%d, %v): %v, where the sectors are %v's", ticket, s, got, who)
		}
		if want {
			for i := range row {
				row[i] = ticket
			}
		}
	}
}

// The tree's calls are not those of Flights: by them two could come to overlap.
func TestP24_3NoOtherCalls(t *testing.T) {
	var names []string
	for m := range reflect.TypeFor[*flight.Flights]().Methods() {
		names = append(names, m.Name)
	}
	if want := []string{"Add", "Busy", "End", "Extents", "Get", "Len", "List", "Own", "Turn"}; !slices.Equal(names, want) {
		t.Errorf("the calls of Flights: %v, want %v", names, want)
	}
}

// Very many: no call is slow.
func TestR1VeryMany(t *testing.T) {
	const many = 100_000
	f := flight.New()
	for i := range many {
		ticket := 1 + i*7919%many
		if !f.Add(ticket, at(2*ticket, 2), []byte{byte(ticket)}) || f.Add(ticket, at(0, 1), nil) || f.Add(many+1, at(2*ticket+1, 1), nil) {
			t.Fatalf("Add(%d), of %d", ticket, i)
		}
	}
	list, own := f.List(), f.Own()
	for i, w := range list {
		if w.Ticket != i+1 || w.Span != at(2*i+2, 2) || own[i].Span != w.Span || w.Data[0] != byte(i+1) {
			t.Fatalf("List: %v at %d, Own %v", w, i, own[i])
		}
	}
	if f.Len() != many || len(list) != many || len(own) != many || f.Extents() != 1<<64-1 || !f.Busy(at(2*many, 2)) || f.Busy(at(2*many+2, 9)) {
		t.Errorf("Len %d, List of %d, Own of %d, Extents %x", f.Len(), len(list), len(own), f.Extents())
	}
	for ticket := 1; ticket <= many; ticket++ {
		if !f.Turn(ticket, flight.Held) || !f.End(ticket) || f.Busy(at(2*ticket, 2)) {
			t.Fatalf("End(%d)", ticket)
		}
	}
	if f.Len() != 0 || f.Extents() != 0 || f.Busy(at(0, sample.MostSectors)) {
		t.Errorf("all ended: Len %d, Extents %x", f.Len(), f.Extents())
	}
}

// heap: how many bytes are held.
func heap() int {
	var m runtime.MemStats
	runtime.GC()
	runtime.ReadMemStats(&m)
	return int(m.HeapAlloc)
}

// The data of writes that ended are held no longer.
func TestP24_1EndedDataAreLetGo(t *testing.T) {
	const size, many = 1 << 16, 400
	f, data := flight.New(), make([]byte, size)
	was := heap()
	for ticket := 1; ticket <= many; ticket++ {
		f.Add(ticket, at(ticket, 1), data)
		f.Turn(ticket, flight.Again)
	}
	for ticket := 1; ticket <= many-10; ticket++ {
		f.End(ticket)
	}
	if grown := heap() - was; f.Len() != 10 || grown > 30*size {
		t.Errorf("%d of %d are left: %d bytes are held, of data of %d each", f.Len(), many, grown, size)
	}
	runtime.KeepAlive(f)
}
