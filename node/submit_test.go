package node_test

import (
	"fmt"
	"slices"
	"testing"

	"twain/api"
	"twain/sample"
)

// refuses: is that what Submit answers, and is all as it was?
func (h *half) refuses(t *testing.T, what string, r api.Request, want api.Errno) {
	t.Helper()
	was, d := h.tells(), h.d.Copy()
	if ticket, err := h.submits(t, what, r); ticket != 0 || err != want {
		t.Fatalf("%s: Submit(%d, %v, %d bytes): %d, %v, want %v", what, r.Kind, r.Span, len(r.Data), ticket, err, want)
	}
	if h.tells() != was || !sample.Alike(h.d, d) {
		t.Fatalf("%s: a Submit(%d, %v) that was refused: %s, it was %s", what, r.Kind, r.Span, h.tells(), was)
	}
}

// busy: is each request that may be refused, and those that may not be, as they are?
func (h *half) busy(t *testing.T, what string) {
	t.Helper()
	for _, r := range []api.Request{sample.Read(0, 1), sample.Read(15, 1), write(9, 12, 1), sample.Flush()} {
		h.refuses(t, what, r, api.ErrBusy)
	}
	h.refuses(t, what, sample.Read(16, 1), api.ErrInvalid)
	h.refuses(t, what, api.Request{Kind: 3}, api.ErrInvalid)
}

// Each request that may not be, in each state: ErrInvalid, or ErrDown where it is stopped; and then one that may be has the ticket that it would have had.
func TestP32_3RequestsThatMayNotBe(t *testing.T) {
	for who := range 2 {
		for _, state := range states() {
			h, _ := in(t, who, state)
			want := api.ErrInvalid
			if state == api.Down {
				want = api.ErrDown
			}
			for i, r := range sample.NoRequests(16) {
				if i%5 == state%5 {
					h.refuses(t, fmt.Sprintf("in state %d", state), r, want)
				}
			}
			h.silent(t, "behind them")
			if state != api.Down {
				if ticket := h.asks(t, "behind them", sample.Flush()); ticket != 1<<24+1 {
					t.Fatalf("in state %d: ticket %d", state, ticket)
				}
			}
		}
	}
}

// The data's last sectors may be asked for, and none beyond, be the disk larger or not.
func TestP32_3TheLastSectors(t *testing.T) {
	for _, size := range []int{24, 25, 40, api.MaxDisk} {
		for n := 1; n <= 8; n++ {
			h, f := halfWith(t, config(), 1, sample.Knowing(size, 0, 0)), farOf(t, 7)
			h.begins(t)
			h.joins(t, f, false)
			h.refuses(t, "beyond", sample.Read(17-n, n), api.ErrInvalid)
			h.refuses(t, "beyond", write(1, 17-n, n), api.ErrInvalid)
			h.asks(t, "the last", sample.Read(16-n, n))
			ticket := h.asks(t, "the last", write(1, 16-n, n))
			h.says(t, "the last", f, sample.Data(ticket, 16-n, bytesFor(1, n)))
			h.answers(t, "the last", f, sample.Answer(isAck, ticket))
			if done := h.polls(t, "the last"); len(done) != 2 {
				t.Fatalf("Poll: %v", done)
			}
		}
	}
}

// In each state in which it runs requests of all kinds are taken, up to as many as the table has room for; the next one is ErrBusy, if it may be.
func TestP32_3AFullTable(t *testing.T) {
	for who := range 2 {
		for _, state := range states()[1:] {
			for most := 1; most <= api.MaxTable; most++ {
				if most > 3 && most < 15 && state != api.Greeting {
					continue
				}
				c := config()
				c.Table, c.Window = most, 64
				h := halfWith(t, c, who, sample.Knowing(24, 0, 0))
				h.goesTo(t, state)
				var want []int
				for i := range most {
					// All of them wait, or fly: what is behind the first write overlaps it.
					r := []api.Request{write(i, 3, 2), sample.Read(4, 1), sample.Flush(), sample.Read(3, 2), write(i, 4, 4)}[i%5]
					want = append(want, h.asks(t, "room", r))
				}
				what := fmt.Sprintf("node %d in state %d, of %d", who, state, most)
				if got := h.n.Requests(); !slices.Equal(got, want) || want[0] != 1<<24+1 && h.n.Boot() == 1 {
					t.Fatalf("%s: Requests %v, want %v", what, got, want)
				}
				h.mails(t, what)
				h.busy(t, what)
				h.silent(t, what)
			}
		}
	}
}

// As many messages as the Window has are not acked, or more: ErrBusy for each request that may be, in each state in which that can be so; and OK again when one is acked.
func TestP32_3AFullSession(t *testing.T) {
	for who := range 2 {
		for window := 1; window <= 3; window++ {
			c := config()
			c.Window, c.Table, c.Hot = window, 16, 16
			h := halfWith(t, c, who, sample.Knowing(24, 0, 0))
			f := h.goesTo(t, api.Connected)
			for i := range window {
				h.asks(t, "room", write(i, 4*i, 2))
			}
			packets := h.mails(t, "room")
			if h.n.Unacked() != window || len(packets) != window {
				t.Fatalf("Unacked %d, %d packets, want %d", h.n.Unacked(), len(packets), window)
			}
			h.busy(t, "Connected")
			for range c.Patience {
				h.ticks(t, "it freezes")
				h.mails(t, "it freezes")
			}
			h.is(t, "it freezes", api.Frozen)
			h.busy(t, "Frozen")
			h.silent(t, "Frozen")
			acks, heard := f.takes(t, "the first one comes", packets[:1])
			if len(heard) != 1 {
				t.Fatalf("the far one heard %v", sample.ShownAll(heard))
			}
			h.carries(t, "the first one is acked", f, acks)
			if h.n.Unacked() != window-1 {
				t.Fatalf("Unacked %d, want %d", h.n.Unacked(), window-1)
			}
			h.asks(t, "one is acked", sample.Read(15, 1))
		}
	}
}

// A Greeting node whose Greet is not acked, with a Window of one; a Source that has as many Exts on their way as the Window has.
func TestP32_3AFullSessionOfOneThatDoesNotServe(t *testing.T) {
	c := config()
	c.Window = 1
	h, f := halfWith(t, c, 0, sample.Knowing(24, 7, 0)), farOf(t, 7)
	h.begins(t)
	h.asks(t, "none was heard", sample.Read(0, 1))
	for _, b := range f.s.Tick() {
		h.takes(t, "a Hello", b)
	}
	h.busy(t, "Greeting")
	h.says(t, "Greeting", f, sample.Greet(7, false))
	h.asks(t, "the Greet is acked", sample.Read(0, 1))
	for _, b := range f.s.Send([]byte{1, 0, 0, 0, 0, 0, 0, 0, 0, 0}) {
		h.takes(t, "a Greet", b)
	}
	h.is(t, "three Exts", api.Source)
	if h.n.Unacked() != 3 {
		t.Fatalf("Unacked %d, want 3", h.n.Unacked())
	}
	h.busy(t, "Source")
	if heard := h.sends(t, "three Exts", f); len(heard) != 3 {
		t.Fatalf("it told %v", sample.ShownAll(heard))
	}
	h.asks(t, "the Exts are acked", sample.Read(0, 1))
}

// Tickets count what was submitted in this boot, whatever became of it; what is refused does not count.
func TestP32_3Tickets(t *testing.T) {
	h, f := in(t, 1, api.Connected)
	for i := 1; i <= 40; i++ {
		r := []api.Request{sample.Read(2, 1), write(i, 2, 1), sample.Flush(), sample.Read(3, 8)}[i%4]
		if ticket := h.asks(t, "one more", r); ticket != 1<<24+i {
			t.Fatalf("ticket %d, want %d", ticket, 1<<24+i)
		}
		h.refuses(t, "it may not be", sample.Read(16, 1), api.ErrInvalid)
		if r.Kind == api.Write {
			h.sends(t, "one more", f)
			h.hears(t, "one more", f, sample.Answer(isAck, 1<<24+i))
		}
	}
	for boot := 2; boot < 5; boot++ {
		h.stops(t, "once more")
		h.begins(t)
		if ticket := h.asks(t, "once more", sample.Flush()); ticket != boot<<24+1 {
			t.Fatalf("ticket %d, of boot %d", ticket, boot)
		}
	}
}

// A boot has 2^24 - 1 tickets; behind the last one each request that may be is ErrBusy, until the node is started once more.
func TestP32_3NoTicketIsLeft(t *testing.T) {
	for who := range 2 {
		h, _ := in(t, who, api.Connected)
		h.n.Submitted(1<<24 - 3)
		h.plain.count = 1<<24 - 3
		for _, n := range []int{1<<24 - 2, 1<<24 - 1} {
			if ticket := h.asks(t, "the last ones", sample.Read(0, 1)); ticket != 1<<24+n {
				t.Fatalf("ticket %#x", ticket)
			}
			h.polls(t, "the last ones")
		}
		for range 3 {
			h.busy(t, "none is left")
			h.silent(t, "none is left")
		}
		h.stops(t, "none is left")
		h.begins(t)
		if ticket := h.asks(t, "once more", sample.Flush()); ticket != 2<<24+1 {
			t.Fatalf("ticket %#x", ticket)
		}
	}
}
