package table_test

import (
	"bytes"
	"fmt"
	"math"
	"slices"
	"testing"

	"twain/api"
	"twain/sample"
	"twain/table"
)

// requests: of each kind that there is, and of some that there are not, with each span, and with no data, nil data, a little and much of it.
func requests() []api.Request {
	var list []api.Request
	for _, kind := range []int{api.Read, api.Write, api.Flush, 3, -1, math.MaxInt, math.MinInt} {
		for _, s := range []api.Span{{}, {Off: 3, Len: 1}, {Off: 0, Len: api.MaxLen}, {Off: -1, Len: math.MinInt}, {Off: math.MaxInt, Len: math.MaxInt}} {
			for _, data := range [][]byte{nil, {}, {0}, sample.Bytes(api.SectorSize), make([]byte, 2*api.SectorSize), sample.Bytes(api.SectorSize * api.MaxLen), sample.Bytes(5000)} {
				list = append(list, api.Request{Kind: kind, Span: s, Data: data})
			}
		}
	}
	return list
}

// write: a write of sector n, whose bytes are all n.
func write(n int) api.Request {
	return api.Request{Kind: api.Write, Span: api.Span{Off: n, Len: 1}, Data: bytes.Repeat([]byte{byte(n)}, api.SectorSize)}
}

// entries: n entries by rising tickets, each of another request.
func entries(n int) []entry {
	list := make([]entry, n)
	for i := range list {
		list[i] = entry{2 + 3*i, write(i + 1)}
	}
	return list
}

func TestP15_1Example(t *testing.T) {
	x := made(t, 1)
	if e := x.Add(1, write(4)); e != api.OK {
		t.Errorf("Add(1): %v", e)
	}
	if e := x.Add(2, write(5)); e != api.ErrFull {
		t.Errorf("Add(2) to a full table: %v, want %v", e, api.ErrFull)
	}
	if !x.Full() || x.Len() != 1 || !slices.Equal(x.Tickets(), []int{1}) {
		t.Errorf("Full %v, Len %d, Tickets %v", x.Full(), x.Len(), x.Tickets())
	}
	if !x.Remove(1) || x.Full() || x.Len() != 0 || len(x.Tickets()) != 0 {
		t.Errorf("Remove(1): Full %v, Len %d, Tickets %v", x.Full(), x.Len(), x.Tickets())
	}
	if e := x.Add(2, write(5)); e != api.OK {
		t.Errorf("Add(2) behind the Remove: %v", e)
	}
	if r, ok := x.Get(2); !ok || !same(r, write(5)) {
		t.Errorf("Get(2): %v, %v", r, ok)
	}
	if r, ok := x.Get(1); ok || !same(r, api.Request{}) {
		t.Errorf("Get(1): %v, %v, want none", r, ok)
	}
}

func TestP15_1New(t *testing.T) {
	for most := 1; most <= api.MaxTable; most++ {
		x := made(t, most)
		if x.Len() != 0 || x.Full() || len(x.Tickets()) != 0 {
			t.Errorf("New(%d): Len %d, Full %v, Tickets %v", most, x.Len(), x.Full(), x.Tickets())
		}
	}
	for _, most := range []int{0, -1, api.MaxTable + 1, -api.MaxTable, 64, math.MinInt, math.MinInt + 1, math.MaxInt, 1 << 32, 1<<32 + 1} {
		if x, e := table.New(most); x != nil || e != api.ErrArg {
			t.Errorf("New(%d): %v, %v, want none, %v", most, x, e, api.ErrArg)
		}
	}
}

// Of each size, filled to the last place, emptied and filled again, in each order: the tickets rise each time.
func TestP15_1FilledAndEmptied(t *testing.T) {
	for most := 1; most <= api.MaxTable; most++ {
		for _, put := range sample.WaysThrough[entry]() {
			for _, take := range sample.WaysThrough[entry]() {
				a := both(t, most)
				for range 2 {
					for _, e := range put(entries(most)) {
						a.add(t, e, api.OK)
					}
					a.add(t, entry{1, write(0)}, api.ErrFull)
					a.add(t, entry{math.MaxInt, write(0)}, api.ErrFull)
					for _, e := range take(entries(most)) {
						a.remove(t, e.ticket, true)
						a.remove(t, e.ticket, false)
					}
				}
			}
		}
	}
}

// A table that was full takes the next one as soon as one went, and no more than that.
func TestP15_1OnePlace(t *testing.T) {
	for most := 1; most <= api.MaxTable; most++ {
		for i := range most {
			a := of(t, most, entries(most)...)
			a.remove(t, entries(most)[i].ticket, true)
			a.add(t, entry{1, write(77)}, api.OK)
			a.add(t, entries(most)[i], api.ErrFull)
			a.remove(t, 1, true)
			a.add(t, entries(most)[i], api.OK)
			a.add(t, entry{1, write(77)}, api.ErrFull)
		}
	}
}

func TestP15_1TicketsRise(t *testing.T) {
	tickets := []int{1, 9, 10, 1 << 32, math.MaxInt}
	for _, order := range sample.Orders(len(tickets)) {
		x := made(t, len(tickets))
		for _, i := range order {
			x.Add(tickets[i], write(i))
		}
		if got := x.Tickets(); !slices.Equal(got, tickets) {
			t.Fatalf("added in the order %v: Tickets %v, want %v", order, got, tickets)
		}
	}
}

func TestP15_1TicketsAtTheEnds(t *testing.T) {
	for _, put := range sample.WaysThrough[int]() {
		a := both(t, api.MaxTable)
		for _, ticket := range put(sample.Tickets()) {
			a.add(t, entry{ticket, write(ticket % 200)}, api.OK)
			a.add(t, entry{ticket, write(3)}, api.ErrArg)
		}
		for _, ticket := range put(sample.Tickets()) {
			a.remove(t, ticket, true)
			a.remove(t, ticket, false)
		}
	}
}

// The one that is there stays as it was, until its Remove.
func TestP15_1ATicketThatIsThere(t *testing.T) {
	for _, ticket := range sample.Tickets() {
		a := of(t, 3, entry{ticket, write(1)})
		for _, r := range []api.Request{write(1), write(2), {}, {Kind: api.Flush}} {
			a.add(t, entry{ticket, r}, api.ErrArg)
		}
		a.remove(t, ticket, true)
		a.add(t, entry{ticket, write(2)}, api.OK)
		if r, ok := a.x.Get(ticket); !ok || !same(r, write(2)) {
			t.Errorf("Get(%d): %v, %v, want what was added last", ticket, r, ok)
		}
	}
}

// Of an Add that is wrong in two ways the ticket is told.
func TestP15_1TheOrderOfErrors(t *testing.T) {
	for most := 1; most <= api.MaxTable; most++ {
		a := of(t, most, entries(most)...)
		for _, e := range entries(most) {
			a.add(t, e, api.ErrArg)
			a.add(t, entry{e.ticket, write(99)}, api.ErrArg)
			a.add(t, entry{e.ticket + 1, e.r}, api.ErrFull)
		}
		for _, ticket := range sample.NoTickets() {
			a.add(t, entry{ticket, write(99)}, api.ErrArg)
		}
	}
}

// To an empty table, to one with room, and to a full one.
func TestP15_1WrongTickets(t *testing.T) {
	for _, a := range []pair{both(t, 1), both(t, api.MaxTable), of(t, 3, entries(2)...), of(t, 2, entries(2)...), of(t, api.MaxTable, entries(api.MaxTable)...)} {
		for _, ticket := range sample.NoTickets() {
			for _, r := range []api.Request{{}, write(1), {Kind: api.Flush}} {
				a.add(t, entry{ticket, r}, api.ErrArg)
			}
			a.remove(t, ticket, false)
		}
		for _, ticket := range []int{1, 3, 4, 1<<32 + 2, math.MaxInt} {
			a.remove(t, ticket, false)
			a.tells(t, "one that is not there", ticket)
		}
	}
}

// A table does not ask which requests may be: it has them as they are.
func TestP15_1EachRequest(t *testing.T) {
	a := both(t, 2)
	a.add(t, entry{5, write(5)}, api.OK)
	for i, r := range requests() {
		a.add(t, entry{i + 6, r}, api.OK)
		if got, ok := a.x.Get(i + 6); !ok || !same(got, r) {
			t.Fatalf("Get(%d): %v, %v, want %v", i+6, got, ok, r)
		}
		a.add(t, entry{i + 7, r}, api.ErrFull)
		a.remove(t, i+6, true)
	}
	// Two of the same request are two.
	a.add(t, entry{4, write(5)}, api.OK)
	a.remove(t, 5, true)
	a.tells(t, "the other one is gone", 4, 5)
}

// Each row of six steps, of Adds and Removes of few tickets.
func TestP15_1AllShortRuns(t *testing.T) {
	steps := []func(a pair, n int){
		func(a pair, n int) { a.added(t, entry{1, write(n)}) },
		func(a pair, n int) { a.added(t, entry{2, write(n)}) },
		func(a pair, n int) { a.added(t, entry{math.MaxInt, write(n)}) },
		func(a pair, n int) { a.removed(t, 1) },
		func(a pair, n int) { a.removed(t, 2) },
		func(a pair, n int) { a.removed(t, math.MaxInt) },
	}
	for most := 1; most <= 3; most++ {
		for i := range 6 * 6 * 6 * 6 * 6 * 6 {
			a := both(t, most)
			for n := range 6 {
				steps[i%6](a, n)
				i /= 6
			}
		}
	}
}

// chosen: the entry that a word chooses, of so many tickets; now and then one lower, which may be none.
func chosen(w uint64, within int, all []api.Request) entry {
	return entry{1 + int(w>>8%uint64(within)) - int(w>>40%16/15), all[w>>20%uint64(len(all))]}
}

// Adds and Removes in turn, without a pattern, of tables of each size, with few tickets that come again and with many.
func TestP15_1LongRuns(t *testing.T) {
	words, all := sample.Words()[130:], requests()
	for most := 1; most <= api.MaxTable; most++ {
		for _, within := range []int{most + 1, 3 * most, math.MaxInt - 1} {
			a := both(t, most)
			answers := map[api.Errno]int{}
			for i, w := range words[:700] {
				e := chosen(w, within, all)
				// More are added than removed, then more removed than added.
				out := w%8 < 1
				if i/100%2 == 1 {
					out = w%8 < 6
				}
				if !out {
					answers[a.added(t, e)]++
				} else if w>>60 < 12 && len(a.p.list) > 0 {
					a.remove(t, a.p.list[w>>8%uint64(len(a.p.list))].ticket, true)
				} else {
					a.removed(t, e.ticket)
				}
			}
			if answers[api.OK] < 20 || answers[api.ErrFull] == 0 || within < 100 && answers[api.ErrArg] == 0 {
				t.Errorf("most %d, within %d: the Adds answered %v", most, within, answers)
			}
		}
	}
}

// Whatever is done, there are no more than may be, and each that was added is there, as it was, until it is removed.
func TestP15_2WhatFollows(t *testing.T) {
	words := sample.Words()[130:]
	for most := 1; most <= api.MaxTable; most++ {
		x := made(t, most)
		there := map[int]api.Request{}
		for i, w := range words[:1000] {
			ticket := int(w >> 8 % uint64(2*most+2))
			if w%8 < 5 {
				if r := write(i % 251); x.Add(ticket, r) == api.OK {
					there[ticket] = r
				}
			} else {
				x.Remove(ticket)
				delete(there, ticket)
			}
			if len(there) > most || x.Len() != len(there) || x.Full() != (len(there) == most) {
				t.Fatalf("most %d: %d were added and not removed; Len %d, Full %v", most, len(there), x.Len(), x.Full())
			}
			for ticket := range 2*most + 2 {
				want, wantOk := there[ticket]
				if got, ok := x.Get(ticket); ok != wantOk || !same(got, want) {
					t.Fatalf("most %d: Get(%d): %v, %v, want %v, %v", most, ticket, got, ok, want, wantOk)
				}
			}
		}
	}
}

// An Add that there is room for is refused only for its ticket.
func TestP15_2ThereMayBeSoMany(t *testing.T) {
	for most := 1; most <= api.MaxTable; most++ {
		x := made(t, most)
		for ticket := 1; ticket <= 3*most; ticket++ {
			want := api.OK
			if ticket > most {
				want = api.ErrFull
			}
			if e := x.Add(ticket, write(ticket)); e != want || x.Len() != min(ticket, most) || x.Full() != (ticket >= most) {
				t.Errorf("most %d: Add(%d): %v, want %v; Len %d, Full %v", most, ticket, e, want, x.Len(), x.Full())
			}
		}
	}
}

// What is handed to Add is the caller's: it is not changed, with the room behind its end, and may be changed.
func TestR3DataHandedToAdd(t *testing.T) {
	for _, size := range []int{0, 1, api.SectorSize, 128, 5000} {
		for _, room := range []int{0, 1, 40} {
			memory := sample.Bytes(size + room)
			was := bytes.Clone(memory)
			r := api.Request{Kind: api.Write, Span: api.Span{Off: 1, Len: 2}, Data: memory[:size]}
			a := of(t, 2, entry{7, r}, entry{8, r})
			a.add(t, entry{9, r}, api.ErrFull)
			if r.Data = r.Data[:cap(r.Data)]; !bytes.Equal(r.Data[:len(was)], was) {
				t.Fatalf("Add changed the data of %d bytes, with room for %d", size, room)
			}
			for i := range r.Data {
				r.Data[i]++
			}
			r.Span.Off = 5
			a.tells(t, "behind a change of what was handed to Add")
			a.remove(t, 7, true)
			a.tells(t, "and behind a Remove")
		}
	}
}

// What Get answers is the caller's: to change, with its spare room, and to keep.
func TestR3DataThatGetAnswers(t *testing.T) {
	for _, size := range []int{0, 1, api.SectorSize, 128, 5000} {
		want := api.Request{Kind: api.Write, Data: sample.Bytes(size)}
		a := of(t, 2, entry{7, want}, entry{8, want})
		kept, _ := a.x.Get(7)
		changed, _ := a.x.Get(7)
		other, _ := a.x.Get(7)
		_ = append(changed.Data, 1, 2, 3)
		changed.Data = changed.Data[:cap(changed.Data)]
		for i := range changed.Data {
			changed.Data[i]++
		}
		changed.Kind = api.Flush
		if !same(other, want) {
			t.Fatalf("of %d bytes: a change of the one answer turned the other to %v", size, other)
		}
		a.tells(t, "behind a change of what Get answered")
		a.remove(t, 7, true)
		a.add(t, entry{7, write(3)}, api.OK)
		if !same(kept, want) {
			t.Fatalf("of %d bytes: what Get answered is %v behind other calls", size, kept)
		}
	}
}

// What Tickets answers is the caller's: to change, with its spare room, and to keep.
func TestR3TicketsThatAreTold(t *testing.T) {
	for n := range api.MaxTable {
		a := of(t, api.MaxTable, sample.Mixed(entries(n))...)
		kept, changed, other := a.x.Tickets(), a.x.Tickets(), a.x.Tickets()
		was := slices.Clone(kept)
		_ = append(changed, 1, 2, 3)
		changed = changed[:cap(changed)]
		for i := range changed {
			changed[i] = -7
		}
		if !slices.Equal(other, was) {
			t.Fatalf("Tickets: %v, is %v behind a change of another answer", was, other)
		}
		a.tells(t, "behind a change of what Tickets told")
		a.add(t, entry{1, write(9)}, api.OK)
		for _, e := range entries(n) {
			a.remove(t, e.ticket, true)
		}
		if !slices.Equal(kept, was) {
			t.Fatalf("Tickets: %v, is %v behind other calls", was, kept)
		}
	}
}

func TestR4TablesGoTheirOwnWays(t *testing.T) {
	one, other := of(t, api.MaxTable, entries(9)...), of(t, 4, sample.Falling(entries(4))...)
	for _, e := range entries(9) {
		one.remove(t, e.ticket, true)
		other.tells(t, "the other", e.ticket)
		other.removed(t, e.ticket)
		other.added(t, entry{e.ticket + 1, e.r})
		one.tells(t, "the one", e.ticket, e.ticket+1)
	}
}

func TestR5ATableThatNoCallMade(t *testing.T) {
	for _, x := range []*table.Table{nil, {}, new(table.Table)} {
		// Twice: no call makes it.
		for range 2 {
			for _, ticket := range append(sample.NoTickets(), sample.Tickets()...) {
				for _, r := range []api.Request{{}, write(1), {Kind: api.Flush}} {
					if e := x.Add(ticket, r); e != api.ErrMade {
						t.Errorf("Add(%d, %v): %v, want %v", ticket, r, e, api.ErrMade)
					}
				}
				if r, ok := x.Get(ticket); ok || !same(r, api.Request{}) || r.Data != nil {
					t.Errorf("Get(%d): %v, %v, want none", ticket, r, ok)
				}
				if x.Remove(ticket) {
					t.Errorf("Remove(%d): true", ticket)
				}
				if x.Len() != 0 || x.Full() || x.Tickets() != nil {
					t.Errorf("Len %d, Full %v, Tickets %v, want 0, false, nil", x.Len(), x.Full(), x.Tickets())
				}
			}
		}
		if x != nil && fmt.Sprint(*x) != fmt.Sprint(table.Table{}) {
			t.Errorf("a Table that no call made became %v", *x)
		}
	}
}
