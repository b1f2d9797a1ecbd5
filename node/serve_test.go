package node_test

import (
	"bytes"
	"fmt"
	"slices"
	"testing"

	"twain/api"
	"twain/disk"
	"twain/sample"
)

// area: what the data area's sectors from off on tell.
func area(d *disk.Disk, off, n int) []byte {
	var b []byte
	for i := range n {
		s, _ := d.Read(8 + off + i)
		b = append(b, s[:]...)
	}
	return b
}

// reads: is what Poll tells just the read of that ticket, with those bytes?
func (h *half) reads(t *testing.T, what string, ticket int, want []byte) {
	t.Helper()
	if done := h.polls(t, what); !alikeDones(done, []api.Done{{Ticket: ticket, Data: want}}) {
		t.Fatalf("%s: Poll: %v, want %d, with %v", what, done, ticket, want)
	}
}

// A read at a node that serves tells at once what the sectors have, from the first to the last.
func TestP32_5Reads(t *testing.T) {
	for who := range 2 {
		for n := 1; n <= 8; n++ {
			for off := range 17 - n {
				h, _ := in(t, who, api.Connected)
				h.reads(t, "a read", h.asks(t, "a read", sample.Read(off, n)), area(h.d, off, n))
				h.silent(t, "a read")
			}
		}
	}
}

// A flush with nothing ahead of it is completed at once, and tells nothing.
func TestP32_5Flush(t *testing.T) {
	for who := range 2 {
		h, _ := in(t, who, api.Connected)
		was := h.d.Copy()
		h.ends(t, "a flush", h.asks(t, "a flush", sample.Flush()))
		h.silent(t, "a flush")
		if !sample.Alike(h.d, was) {
			t.Errorf("a flush did something to the disk")
		}
	}
}

// A write is durable here, and told; it is completed when the other one has it, or has one that it lies within.
func TestP32_5Writes(t *testing.T) {
	for who := range 2 {
		for _, answer := range []int{isAck, isOver} {
			for n := 1; n <= 8; n++ {
				for _, off := range []int{0, 1, 3, 15 - n, 16 - n} {
					h, f := in(t, who, api.Connected)
					ticket := h.asks(t, "a write", write(n, off, n))
					if !h.has(off, bytesFor(n, n)) || len(h.d.Cached()) != 0 {
						t.Fatalf("(%d, %d) is not durable", off, n)
					}
					if !slices.Equal(h.n.Flying(), []int{ticket}) || !slices.Equal(h.n.Requests(), []int{ticket}) || h.n.Unacked() != 1 {
						t.Fatalf("(%d, %d): %s", off, n, h.tells())
					}
					h.says(t, "a write", f, sample.Data(ticket, off, bytesFor(n, n)))
					if h.n.Unacked() != 0 {
						t.Fatalf("(%d, %d): %s", off, n, h.tells())
					}
					h.ends(t, "it is told")
					h.answers(t, "it is answered", f, sample.Answer(answer, ticket))
					h.ends(t, "it is answered", ticket)
					if h.n.Flying() != nil || h.n.Requests() != nil {
						t.Fatalf("(%d, %d): %s", off, n, h.tells())
					}
					h.answers(t, "it is answered twice", f, sample.Answer(answer, ticket))
					h.silent(t, "it is answered twice")
				}
			}
		}
	}
}

// A write that is to be tried again is so at once, and is completed by an answer as the first time.
func TestP32_5Again(t *testing.T) {
	h, f := in(t, 1, api.Connected)
	ticket := h.asks(t, "a write", write(1, 3, 2))
	h.says(t, "a write", f, sample.Data(ticket, 3, bytesFor(1, 2)))
	for range 3 {
		h.answers(t, "to be tried again", f, sample.Answer(isRetry, ticket), sample.Data(ticket, 3, bytesFor(1, 2)))
		h.ends(t, "to be tried again")
	}
	h.hears(t, "it is there", f, sample.Answer(isAck, ticket))
	h.ends(t, "it is there", ticket)
}

// A read of what an own flight has waits until that has ended, and tells what it wrote; one that lies beside it does not wait.
func TestP32_5ReadsBesideAFlight(t *testing.T) {
	for who := range 2 {
		for _, s := range sample.NearSpans(api.Span{Off: 5, Len: 3}) {
			r := sample.Read(s.Off, s.Len)
			if !sample.IsRequest(16, r) {
				continue
			}
			h, f := in(t, who, api.Connected)
			flight := h.asks(t, "a write", write(1, 5, 3))
			ticket := h.asks(t, "a read", r)
			if sample.InBoth(s, api.Span{Off: 5, Len: 3}) {
				h.ends(t, "it waits")
				h.sends(t, "it waits", f)
				h.hears(t, "it ends", f, sample.Answer(isAck, flight))
				done := h.polls(t, "it ends")
				if !alikeDones(done, []api.Done{{Ticket: flight}, {Ticket: ticket, Data: area(h.d, s.Off, s.Len)}}) {
					t.Fatalf("%v: Poll: %v", s, done)
				}
			} else {
				h.reads(t, "it does not wait", ticket, area(h.d, s.Off, s.Len))
			}
		}
	}
}

// A write that overlaps an own flight waits until that has ended, and one that overlaps what waits does, too; they go in the order of their tickets.
func TestP32_5WritesBesideAFlight(t *testing.T) {
	for who := range 2 {
		h, f := in(t, who, api.Connected)
		first := h.asks(t, "the first", write(1, 4, 3))
		second := h.asks(t, "over the first", write(2, 6, 2))
		third := h.asks(t, "over the second", write(3, 7, 1))
		beside := h.asks(t, "beside all", write(4, 8, 1))
		h.says(t, "two fly", f, sample.Data(first, 4, bytesFor(1, 3)), sample.Data(beside, 8, bytesFor(4, 1)))
		if !slices.Equal(h.n.Flying(), []int{first, beside}) || !slices.Equal(h.n.Requests(), []int{first, second, third, beside}) {
			t.Fatalf("%s", h.tells())
		}
		h.answers(t, "the first ends", f, sample.Answer(isAck, first), sample.Data(second, 6, bytesFor(2, 2)))
		h.answers(t, "the second ends", f, sample.Answer(isOver, second), sample.Data(third, 7, bytesFor(3, 1)))
		h.answers(t, "the third ends", f, sample.Answer(isAck, third))
		h.ends(t, "three ended", first, second, third)
		if !h.has(4, bytesFor(1, 2)) || !h.has(6, bytesFor(2, 1)) || !h.has(7, bytesFor(3, 1)) {
			t.Fatalf("the sectors have others' bytes")
		}
	}
}

// A flush waits for all writes with lesser tickets, that fly or wait, and for none with greater ones.
func TestP32_5FlushBesideWrites(t *testing.T) {
	for who := range 2 {
		h, f := in(t, who, api.Connected)
		one := h.asks(t, "a write", write(1, 0, 2))
		two := h.asks(t, "over it", write(2, 1, 2))
		flush := h.asks(t, "a flush", sample.Flush())
		behind := h.asks(t, "behind it", write(3, 8, 2))
		h.sends(t, "all", f)
		if !slices.Equal(h.n.Flying(), []int{one, behind}) {
			t.Fatalf("%s", h.tells())
		}
		h.ends(t, "all wait")
		h.hears(t, "the first ends", f, sample.Answer(isAck, one))
		h.ends(t, "the first ends", one)
		h.hears(t, "the second ends", f, sample.Answer(isAck, two))
		h.ends(t, "the second ends, and the flush", two, flush)
		h.hears(t, "the last ends", f, sample.Answer(isAck, behind))
		h.ends(t, "the last ends", behind)
	}
}

// Reads wait for no read, and no flush; writes wait for none of them.
func TestP32_5WhatWaitsForNone(t *testing.T) {
	h, f := in(t, 0, api.Greeting)
	for range 2 {
		h.asks(t, "ahead", sample.Read(2, 3))
	}
	flush := h.asks(t, "ahead", sample.Flush())
	last := h.asks(t, "the last", write(1, 2, 2))
	h.hears(t, "it joins", f, sample.Greet(0, true))
	was := area(h.d, 2, 3)
	heard := h.hears(t, "it joins", f, end())
	if !sample.AlikeAll(heard, []api.Message{sample.Data(last, 2, bytesFor(1, 2))}) {
		t.Fatalf("it told %v", sample.ShownAll(heard))
	}
	if done := h.polls(t, "it joins"); !alikeDones(done, []api.Done{{Ticket: flush - 2, Data: was}, {Ticket: flush - 1, Data: was}, {Ticket: flush}}) {
		t.Fatalf("Poll: %v", done)
	}
}

// What was asked ahead waits, whatever it is, until the node is Connected; then all that may is done in the order of the tickets.
func TestP32_5WhatWasAskedAhead(t *testing.T) {
	for who := range 2 {
		for _, state := range []int{api.Greeting, api.Source, api.Target} {
			c := config()
			c.Table, c.Window, c.Hot = 16, 64, 16
			h := halfWith(t, c, who, sample.Knowing(24, 0, 0))
			f := h.goesTo(t, state)
			var tickets []int
			for i, r := range []api.Request{sample.Flush(), sample.Read(1, 2), write(1, 1, 1), sample.Read(2, 1), sample.Read(1, 1), write(2, 9, 2), sample.Flush(), write(3, 12, 4)} {
				tickets = append(tickets, h.asks(t, "ahead", r))
				h.silent(t, fmt.Sprint("ahead, ", i))
			}
			if state == api.Greeting {
				h.hears(t, "it meets", f, sample.Greet(6, true))
			}
			for range 3 {
				h.ticks(t, "it copies")
				h.sends(t, "it copies", f)
			}
			h.ends(t, "it copies")
			was := area(h.d, 1, 2)
			h.copies(t, f)
			want := []api.Message{sample.Data(tickets[2], 1, bytesFor(1, 1)), sample.Data(tickets[5], 9, bytesFor(2, 2)), sample.Data(tickets[7], 12, bytesFor(3, 4))}
			if h.n.Status() != api.Connected || !slices.Equal(h.n.Flying(), []int{tickets[2], tickets[5], tickets[7]}) {
				t.Fatalf("%s", h.tells())
			}
			done := h.polls(t, "Connected")
			if !alikeDones(done, []api.Done{{Ticket: tickets[0]}, {Ticket: tickets[1], Data: was}, {Ticket: tickets[3], Data: was[16:]}}) {
				t.Fatalf("Poll: %v", done)
			}
			for _, m := range want {
				h.hears(t, "answered", f, sample.Answer(isAck, m.Id))
			}
			if done = h.polls(t, "answered"); len(done) != 5 || done[0].Ticket != tickets[2] || done[1].Ticket != tickets[4] || !bytes.Equal(done[1].Data, bytesFor(1, 1)) || done[2].Ticket != tickets[5] || done[3].Ticket != tickets[6] || done[4].Ticket != tickets[7] {
				t.Fatalf("Poll: %v", done)
			}
		}
	}
}

// copies: the far one has the rest of the resync done: it has what it is given, or gives what is left, and says End.
func (h *half) copies(t *testing.T, f *far) {
	t.Helper()
	const what = "it copies"
	left := sample.Members(h.n.Left())
	for i, e := range left {
		if h.n.Status() == api.Source {
			heard := h.hears(t, what, f, sample.Have(e))
			if last := i == len(left)-1; last != (len(heard) > 0 && sample.AlikeMessages(heard[0], end())) {
				t.Fatalf("extent %d: it told %v", e, sample.ShownAll(heard))
			}
		} else {
			h.answers(t, what, f, sample.Ext(e, sample.Pattern(e+1, 4)), sample.Have(e))
		}
	}
	if h.n.Status() == api.Target {
		h.hears(t, what, f, end())
	}
	h.is(t, what, api.Connected)
}

// A node that hears nothing takes requests, and does none of them; at the next packet it goes on.
func TestP32_5Frozen(t *testing.T) {
	for who := range 2 {
		h, f := in(t, who, api.Frozen)
		was := area(h.d, 3, 1)
		read := h.asks(t, "Frozen", sample.Read(3, 1))
		flush := h.asks(t, "Frozen", sample.Flush())
		ticket := h.asks(t, "Frozen", write(1, 3, 1))
		disk := h.d.Copy()
		for range 3 {
			h.ends(t, "Frozen")
			h.ticks(t, "Frozen")
			h.takes(t, "Frozen", []byte{1, 2, 3})
			h.mails(t, "Frozen")
			h.is(t, "Frozen", api.Frozen)
		}
		if !sample.Alike(h.d, disk) || !slices.Equal(h.n.Requests(), []int{read, flush, ticket}) || h.n.Flying() != nil {
			t.Fatalf("Frozen: %s", h.tells())
		}
		for _, b := range f.s.Tick() {
			h.takes(t, "a Ping", b)
		}
		h.is(t, "a Ping", api.Connected)
		h.says(t, "a Ping", f, sample.Data(ticket, 3, bytesFor(1, 1)))
		if done := h.polls(t, "a Ping"); !alikeDones(done, []api.Done{{Ticket: read, Data: was}, {Ticket: flush}}) {
			t.Fatalf("Poll: %v", done)
		}
	}
}

// Patience ticks without a word, and not one fewer, freeze it; each word begins anew, a packet that is none does not.
func TestP32_2Patience(t *testing.T) {
	for _, patience := range []int{2, 3, 7, 100} {
		c := config()
		c.Patience = patience
		h := halfWith(t, c, patience%2, sample.Knowing(24, 0, 0))
		f := h.goesTo(t, api.Connected)
		for _, silence := range []int{patience - 1, 1, patience - 1, patience, patience + 5, patience - 1} {
			for i := range silence {
				if h.is(t, "it hears nothing", api.Connected); i == patience-1 {
					break
				}
				h.ticks(t, "it hears nothing")
				h.takes(t, "it hears nothing", []byte("no packet"))
				h.mails(t, "it hears nothing")
			}
			if silence >= patience {
				for range silence - patience + 1 {
					h.ticks(t, "it hears nothing")
					h.is(t, "it hears nothing", api.Frozen)
				}
			}
			h.carries(t, "a word", f, f.s.Tick())
			h.is(t, "a word", api.Connected)
		}
	}
}

// Of more extents than may be hot together those of flights stay: a write that needs another one waits on, though nothing overlaps it; what is behind it goes, if it has room.
func TestP32_5NoRoomAmongTheHot(t *testing.T) {
	for who := range 2 {
		c := config()
		c.Table, c.Window, c.Sectors = 16, 64, 32
		h := halfWith(t, c, who, sample.Knowing(40, 0, 0))
		f := h.goesTo(t, api.Connected)
		a := h.asks(t, "two extents", write(1, 2, 4))
		b := h.asks(t, "a third", write(2, 8, 1))
		waits := h.asks(t, "a fourth", write(3, 12, 2))
		over := h.asks(t, "over what waits", sample.Read(13, 1))
		beside := h.asks(t, "the third again", write(4, 9, 2))
		flush := h.asks(t, "a flush", sample.Flush())
		if !slices.Equal(h.n.Flying(), []int{a, b, beside}) {
			t.Fatalf("%s", h.tells())
		}
		h.says(t, "three fly", f, sample.Data(a, 2, bytesFor(1, 4)), sample.Data(b, 8, bytesFor(2, 1)), sample.Data(beside, 9, bytesFor(4, 2)))
		h.answers(t, "the third stays", f, sample.Answer(isAck, b))
		h.answers(t, "there is room", f, sample.Answer(isAck, a), sample.Data(waits, 12, bytesFor(3, 2)))
		h.hears(t, "the rest", f, sample.Answer(isAck, beside))
		h.ends(t, "three ended", b, a, beside)
		h.hears(t, "the rest", f, sample.Answer(isAck, waits))
		if done := h.polls(t, "all"); !alikeDones(done, []api.Done{{Ticket: waits}, {Ticket: over, Data: bytesFor(3, 2)[16:]}, {Ticket: flush}}) {
			t.Fatalf("Poll: %v", done)
		}
	}
}

// A write of the other one that waits here keeps an own write of its sectors waiting, not a read; when the own one that keeps it has ended it goes first.
func TestP32_5BesideWhatWaitsHere(t *testing.T) {
	h, f := in(t, 1, api.Connected)
	own := h.asks(t, "an own one", write(1, 2, 3))
	h.sends(t, "an own one", f)
	h.answers(t, "it waits here", f, sample.Data(9, 4, bytesFor(9, 3)))
	waits := h.asks(t, "over what waits", write(2, 5, 1))
	was := area(h.d, 5, 2)
	read := h.asks(t, "over what waits", sample.Read(6, 1))
	h.reads(t, "a read", read, was[16:])
	if !slices.Equal(h.n.Flying(), []int{own}) {
		t.Fatalf("%s", h.tells())
	}
	h.answers(t, "the own one ends", f, sample.Answer(isAck, own), sample.Answer(isAck, 9), sample.Data(waits, 5, bytesFor(2, 1)))
	h.ends(t, "the own one ends", own)
	if !h.has(2, bytesFor(1, 2)) || !h.has(4, bytesFor(9, 1)) || !h.has(5, bytesFor(2, 1)) || !h.has(6, bytesFor(9, 3)[32:]) {
		t.Fatalf("the sectors have others' bytes")
	}
}

// What waits here, and goes, is told ahead of own ones that are tried again, and those ahead of requests that waited.
func TestP32_5TheOrderOfWhatIsTold(t *testing.T) {
	c := config()
	c.Table, c.Window, c.Hot = 16, 64, 16
	h := halfWith(t, c, 1, sample.Knowing(24, 0, 0))
	f := h.goesTo(t, api.Connected)
	one := h.asks(t, "flies", write(1, 0, 4))
	two := h.asks(t, "flies", write(2, 8, 4))
	over := h.asks(t, "waits", write(3, 1, 1))
	h.sends(t, "they fly", f)
	h.answers(t, "waits here", f, sample.Data(90, 3, bytesFor(90, 2)))
	h.answers(t, "waits here", f, sample.Data(91, 9, bytesFor(91, 1)))
	h.answers(t, "again", f, sample.Answer(isRetry, two), sample.Answer(isAck, 91), sample.Data(two, 8, bytesFor(2, 4)))
	for range 3 {
		h.ticks(t, "it freezes")
		h.mails(t, "it freezes")
	}
	h.answers(t, "it goes", f, sample.Answer(isOver, one), sample.Answer(isAck, 90), sample.Data(over, 1, bytesFor(3, 1)))
	h.ends(t, "one ended", one)
}
