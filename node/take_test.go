package node_test

import (
	"fmt"
	"slices"
	"testing"

	"twain/api"
	"twain/dirty"
	"twain/meta"
	"twain/pack"
	"twain/sample"
	"twain/wire"
)

// raw: the bytes of a packet that may be.
func raw(t *testing.T, p api.Packet) []byte {
	t.Helper()
	b := wire.Bytes(p)
	if b == nil {
		t.Fatalf("%+v is no packet", p)
	}
	return b
}

// stays: does Take of that do nothing at all?
func (h *half) stays(t *testing.T, what string, b []byte) {
	t.Helper()
	was, d := h.tells(), h.d.Copy()
	h.takes(t, what, b)
	h.silent(t, what)
	if h.tells() != was || !sample.Alike(h.d, d) {
		t.Fatalf("%s: Take(%v): %s, it was %s", what, b, h.tells(), was)
	}
}

// Bytes that are no packet do nothing, in each state, nor does one of an old boot, nor a Ping for this one that acks nothing, but for waking one that is Frozen.
func TestP32_4WhatIsNoPacket(t *testing.T) {
	for who := range 2 {
		for _, state := range states() {
			what := fmt.Sprintf("node %d in state %d", who, state)
			h, f := in(t, who, state)
			for i, b := range sample.Lists() {
				if i%4 == state%4 {
					h.stays(t, what, b)
				}
			}
			good := raw(t, api.Packet{From: 9, To: 1, Kind: wire.Ping})
			i := 0
			for b := range sample.Others(good) {
				if i++; i%97 == 0 {
					h.stays(t, what, b)
				}
			}
			for size := range good {
				h.stays(t, what, good[:size])
				h.stays(t, what, append(good[:size:size], 0))
			}
			if state == api.Down {
				h.stays(t, what, good)
				continue
			}
			for _, p := range []api.Packet{{From: f.s.My() - 1, Kind: wire.Hello}, {From: f.s.My() - 1, To: 1, Kind: wire.Ping}, {From: 1, To: 1, Kind: wire.Msg, Seq: 1, Body: pack.Bytes(sample.Greet(1, true))}} {
				h.stays(t, what+", of an old boot", raw(t, p))
			}
			h.takes(t, what, raw(t, api.Packet{From: f.s.My(), To: 1, Kind: wire.Ping, Ack: 1}))
			if state == api.Frozen {
				state = api.Connected
			}
			h.silent(t, what)
			h.is(t, what, state)
		}
	}
}

// A packet of the same boot that is not for this one is answered by a Ping alone: it is no word for this one.
func TestP32_4WhatIsNotForThisOne(t *testing.T) {
	for who := range 2 {
		for _, state := range states()[1:] {
			what := fmt.Sprintf("node %d in state %d", who, state)
			h, f := in(t, who, state)
			for _, p := range []api.Packet{{Kind: wire.Hello}, {To: 2, Kind: wire.Ping}, {To: 99, Kind: wire.Msg, Seq: 1, Body: pack.Bytes(sample.Greet(1, true))}} {
				p.From = f.s.My()
				was, d := h.tells(), h.d.Copy()
				h.takes(t, what, raw(t, p))
				list := h.mails(t, what)
				if len(list) != 1 {
					t.Fatalf("%s: %v", what, list)
				}
				if back, err := wire.Parse(list[0]); err != api.OK || back.Kind != wire.Ping || back.From != 1 || back.To != f.s.My() {
					t.Fatalf("%s: %+v, %v", what, back, err)
				}
				h.silent(t, what)
				if h.tells() != was || !sample.Alike(h.d, d) {
					t.Fatalf("%s: %s, it was %s", what, h.tells(), was)
				}
			}
		}
	}
}

// A new boot of the other one, in each state: whether its packet is for this one or not, the node greets it, with what it knows, and looks for it.
func TestP32_4ANewBoot(t *testing.T) {
	for who := range 2 {
		for _, state := range states()[1:] {
			for kind := range 3 {
				what := fmt.Sprintf("node %d in state %d, %d", who, state, kind)
				h, old := in(t, who, state)
				mask := dirty.Get(h.d)
				was := state >= api.Connected || state == api.Source && who == 1
				f := farOf(t, 50)
				p := []api.Packet{{From: 50, Kind: wire.Hello}, {From: 50, To: 1, Kind: wire.Ping}, {From: 50, To: 3, Kind: wire.Ping, Ack: 9}}[kind]
				h.takes(t, what, raw(t, p))
				if got, want := h.tells(), told(api.Greeting, 1, 50, nil, nil, 1, 0); got != want {
					t.Fatalf("%s: %s, want %s", what, got, want)
				}
				h.says(t, what, f, sample.Greet(mask, was))
				h.stays(t, what+", of the old boot", raw(t, api.Packet{From: old.s.My(), To: 1, Kind: wire.Ping}))
				h.hears(t, what, f, sample.Greet(1, true))
				if who == 0 && was {
					h.is(t, what, api.Source)
				} else {
					h.is(t, what, api.Target)
				}
			}
		}
	}
}

// A message may come by the very packet that a new boot is heard by: the Greet is sent, and the message is heard.
func TestP32_4ANewBootWithAMessage(t *testing.T) {
	for who := range 2 {
		for _, state := range states()[1:] {
			h, _ := in(t, who, state)
			was := state >= api.Connected || state == api.Source && who == 1
			h.takes(t, "both", raw(t, api.Packet{From: 50, To: 1, Kind: wire.Msg, Seq: 1, Body: pack.Bytes(sample.Greet(8, false))}))
			want := api.Source
			if who == 1 && !was {
				want = api.Target
			}
			h.is(t, "both", want)
			var heard []api.Message
			for _, b := range h.mails(t, "both") {
				if p, _ := wire.Parse(b); p.Kind == wire.Msg {
					m, _ := pack.Parse(p.Body)
					heard = append(heard, m)
				}
			}
			if len(heard) == 0 || heard[0].Kind != 1 || heard[0].Was != was || want == api.Source && heard[len(heard)-1].Kind != 6 {
				t.Fatalf("node %d in state %d: it told %v", who, state, sample.ShownAll(heard))
			}
		}
	}
}

// What flies is Held when a new boot is heard, and what waits here is gone; when both have met it is completed, and what was asked waits until then, and goes then.
func TestP32_4WhatFliesAtANewBoot(t *testing.T) {
	c := config()
	c.Table, c.Window, c.Hot = 16, 64, 16
	h := halfWith(t, c, 1, sample.Knowing(24, 0, 0))
	f := h.goesTo(t, api.Connected)
	two := []int{h.asks(t, "they fly", write(1, 2, 2)), h.asks(t, "they fly", write(2, 8, 2))}
	h.sends(t, "they fly", f)
	h.answers(t, "it waits here", f, sample.Data(9, 3, bytesFor(9, 2)))
	over := h.asks(t, "over one that flies", write(3, 9, 1))
	h.sends(t, "they fly", f)
	for boot := uint32(8); boot < 11; boot++ {
		f = farOf(t, boot)
		h.meets(t, "a new boot", f, sample.Greet(5, true))
		if !slices.Equal(h.n.Flying(), two) || !slices.Equal(h.n.Requests(), append(slices.Clone(two), over)) {
			t.Fatalf("boot %d: %s", boot, h.tells())
		}
		h.ends(t, "a new boot")
	}
	h.asks(t, "asked meanwhile", sample.Read(2, 2))
	if heard := h.hears(t, "it gives", f, sample.Greet(2, false)); len(heard) != 3 || h.n.Status() != api.Source || h.n.Left() != 7 {
		t.Fatalf("it told %v: %s", sample.ShownAll(heard), h.tells())
	}
	h.hears(t, "it gives", f, sample.Have(0), sample.Have(2))
	h.ends(t, "it gives")
	h.answers(t, "it gave all", f, sample.Have(1), end(), sample.Data(over, 9, bytesFor(3, 1)))
	if done := h.polls(t, "it gave all"); !alikeDones(done, []api.Done{{Ticket: two[0]}, {Ticket: two[1]}, {Ticket: over + 1, Data: bytesFor(1, 2)}}) {
		t.Fatalf("Poll: %v", done)
	}
	if !h.has(2, bytesFor(1, 2)) || !slices.Equal(h.n.Flying(), []int{over}) {
		t.Fatalf("%s", h.tells())
	}
	h.hears(t, "it goes", f, sample.Answer(isAck, over))
	h.ends(t, "it goes", over)
}

// A flight that was to be tried again when a new boot is heard is on the disk behind it, whatever went over it.
func TestP32_4WhatIsAgainAtANewBoot(t *testing.T) {
	c := config()
	c.Table, c.Window, c.Hot = 16, 64, 16
	h := halfWith(t, c, 1, sample.Knowing(24, 0, 0))
	f := h.goesTo(t, api.Connected)
	one := h.asks(t, "it keeps one waiting", write(1, 0, 4))
	two := h.asks(t, "to be tried again", write(2, 4, 4))
	h.sends(t, "they fly", f)
	h.answers(t, "it waits here", f, sample.Data(9, 3, bytesFor(9, 2)))
	h.answers(t, "it waits, too", f, sample.Answer(isRetry, two))
	h.answers(t, "it goes over it", f, sample.Data(10, 6, bytesFor(10, 1)), sample.Answer(isAck, 10))
	if h.has(4, bytesFor(2, 4)) || !h.has(6, bytesFor(10, 1)) {
		t.Fatalf("nothing went over it")
	}
	h.meets(t, "a new boot", farOf(t, 8), sample.Greet(3, true))
	if !h.has(4, bytesFor(2, 4)) || !slices.Equal(h.n.Flying(), []int{one, two}) || len(h.d.Cached()) != 0 {
		t.Fatalf("%s", h.tells())
	}
}

// A Greet makes it the Source or the Target, by who it is and what both were; the union of both Masks is left, as far as the data has it, and stands in its bitmap, and its log is empty.
func TestP32_4Greets(t *testing.T) {
	for who := range 2 {
		for _, mine := range []bool{false, true} {
			for _, theirs := range []bool{false, true} {
				for _, mask := range []uint64{0, 1, 6, 15, 16, 1<<63 | 2, 0xffffffffffffffff} {
					what := fmt.Sprintf("node %d, %v, %v, %#x", who, mine, theirs, mask)
					h, f := halfWith(t, config(), who, sample.Knowing(40, 1, 4)), farOf(t, 7)
					h.begins(t)
					known := uint64(5)
					if mine {
						h.joins(t, f, false)
						f, known = farOf(t, 8), 0
					}
					h.meets(t, what, f, sample.Greet(known, mine))
					heard := h.hears(t, what, f, sample.Greet(mask, theirs))
					union := sample.Union(known, mask, 16)
					source := mine && !theirs || mine == theirs && who == 0
					var want []api.Message
					for _, e := range sample.Members(union) {
						want = append(want, sample.Ext(e, sample.ExtentBytes(h.d, e)))
					}
					state := api.Source
					switch {
					case !source:
						state, want = api.Target, nil
					case union == 0:
						state, want = api.Connected, []api.Message{end()}
					}
					if h.n.Status() != state || h.n.Left() != union || !sample.AlikeAll(heard, want) {
						t.Fatalf("%s: it told %v: %s, want %v, state %d", what, sample.ShownAll(heard), h.tells(), sample.ShownAll(want), state)
					}
					if known := meta.Look(h.d); known.Hot != 0 || known.Dirty != union {
						t.Fatalf("%s: the disk tells %+v, want %#x", what, known, union)
					}
				}
			}
		}
	}
}

// The hot set is forgotten when both meet: the next Greet has what is in the bitmap alone.
func TestP32_4TheHotSetIsForgotten(t *testing.T) {
	for who := range 2 {
		h, f := halfWith(t, config(), who, sample.Knowing(40, 3, 0)), farOf(t, 7)
		h.begins(t)
		h.meets(t, "it meets", f, sample.Greet(3, false))
		h.hears(t, "it meets", f, sample.Greet(8, true))
		h.answers(t, "it copies", f, sample.Ext(1, sample.Bytes(64)), sample.Have(1))
		h.meets(t, "a new boot", farOf(t, 8), sample.Greet(9, false))
		h.joins(t, farOf(t, 9), false)
		h.meets(t, "both were alike", farOf(t, 10), sample.Greet(0, true))
	}
}

// What is written stands in the next Greet: the extents that were used last, as many as may be hot.
func TestP32_4TheHotSetIsTold(t *testing.T) {
	for who := range 2 {
		h, f := in(t, who, api.Connected)
		for i, off := range []int{0, 7, 12} {
			ticket := h.asks(t, "hot", write(i, off, 2))
			h.sends(t, "hot", f)
			h.hears(t, "hot", f, sample.Answer(isAck, ticket))
		}
		h.meets(t, "a new boot", farOf(t, 8), sample.Greet(14, true))
	}
}

// The Target takes extents, those of the union and others, and is Connected by End alone; the Source by the last Have alone.
func TestP32_4Copying(t *testing.T) {
	for who := range 2 {
		h, f := in(t, who, api.Target)
		b := sample.Bytes(64)
		h.answers(t, "an extent", f, sample.Ext(2, b), sample.Have(2))
		h.answers(t, "one that is not left", f, sample.Ext(0, b), sample.Have(0))
		h.answers(t, "one twice", f, sample.Ext(2, b), sample.Have(2))
		h.is(t, "extents", api.Target)
		if h.n.Left() != 2 || !h.has(8, b) || !h.has(0, b) {
			t.Fatalf("%s", h.tells())
		}
		h.answers(t, "the last one", f, sample.Ext(1, b), sample.Have(1))
		h.answers(t, "no Have is for it", f, sample.Have(1))
		h.is(t, "all extents", api.Target)
		h.answers(t, "End", f, end())
		h.is(t, "End", api.Connected)
		h, f = in(t, who, api.Source)
		h.answers(t, "a Have", f, sample.Have(2))
		h.answers(t, "twice", f, sample.Have(2))
		h.answers(t, "of another one", f, sample.Have(3))
		h.answers(t, "no End is for it", f, end())
		h.answers(t, "no Ext is for it", f, sample.Ext(0, b))
		h.is(t, "one is left", api.Source)
		if h.n.Left() != 2 || h.has(0, b) {
			t.Fatalf("%s", h.tells())
		}
		h.answers(t, "the last one", f, sample.Have(1), end())
		h.is(t, "the last one", api.Connected)
		if h.n.Left() != 0 {
			t.Fatalf("%s", h.tells())
		}
	}
}

// An End ahead of the last extent ends the Target's part all the same.
func TestP32_4AnEarlyEnd(t *testing.T) {
	for who := range 2 {
		h, f := in(t, who, api.Target)
		h.answers(t, "End", f, end())
		if got, want := h.tells(), told(api.Connected, 1, 7, nil, nil, 0, 0); got != want {
			t.Fatalf("%s, want %s", got, want)
		}
	}
}

// heedless: is it heard by no state but those?
func (h *half) heedless(t *testing.T, what string, f *far, m api.Message) {
	t.Helper()
	was, d := h.tells(), h.d.Copy()
	h.answers(t, what, f, m)
	h.silent(t, what)
	if h.tells() != was || !sample.Alike(h.d, d) {
		t.Fatalf("%s: it was told %s: %s, it was %s", what, sample.Shown(m), h.tells(), was)
	}
}

// In each state what is not for it does nothing: a Greet while it is not Greeting, an Ext, a Have and an End without a resync, a Data and an answer while it is not Connected.
func TestP32_4WhatIsNotForAState(t *testing.T) {
	greets := []api.Message{sample.Greet(0, false), sample.Greet(15, true)}
	copying := []api.Message{sample.Ext(1, sample.Bytes(64)), sample.Ext(63, sample.Bytes(64)), sample.Have(1), sample.Have(63), end()}
	writes := []api.Message{sample.Data(9, 2, sample.Bytes(32)), sample.Data(9, 15, sample.Bytes(32)), sample.Data(9, 255, sample.Bytes(16)), sample.Answer(isAck, 1<<24+1), sample.Answer(isOver, 1<<24+1), sample.Answer(isRetry, 1<<24+1)}
	for who := range 2 {
		for state, list := range map[int][]api.Message{
			api.Greeting:  slices.Concat(copying, writes),
			api.Source:    slices.Concat(greets, writes),
			api.Target:    slices.Concat(greets, writes),
			api.Connected: slices.Concat(greets, copying),
		} {
			h, f := in(t, who, state)
			h.asks(t, "ahead", write(1, 2, 2))
			h.sends(t, "ahead", f)
			for _, m := range list {
				h.heedless(t, fmt.Sprintf("node %d in state %d", who, state), f, m)
			}
		}
	}
}

// A Frozen node that is told something hears again, and does with it what a Connected one does.
func TestP32_4WhatWakesIt(t *testing.T) {
	for who := range 2 {
		h, f := in(t, who, api.Frozen)
		h.answers(t, "a Data", f, sample.Data(9, 2, bytesFor(9, 2)), sample.Answer(isAck, 9))
		h.is(t, "a Data", api.Connected)
		if !h.has(2, bytesFor(9, 2)) {
			t.Fatalf("it is not there")
		}
		for _, m := range []api.Message{sample.Greet(15, true), sample.Ext(1, sample.Bytes(64)), sample.Have(1), end()} {
			h, f = in(t, who, api.Frozen)
			h.answers(t, "not for it", f, m)
			h.is(t, "not for it", api.Connected)
		}
	}
}

// Bodies that are no messages that may be are taken, acked, and do nothing, in each state.
func TestP32_4WhatIsNoMessage(t *testing.T) {
	bodies := [][]byte{{0}, {1}, {9}, {255}, {8, 0}, {3, 0, 0, 0, 0, 0, 0, 0}, {3, 0, 0, 0, 0, 0, 0, 0, 0}, {7, 0, 64}, {1, 2, 0, 0, 0, 0, 0, 0, 0, 0}, sample.Bytes(api.MaxBody)}
	for _, m := range []api.Message{sample.Greet(9, true), sample.Data(9, 2, sample.Bytes(32)), sample.Answer(isAck, 5), sample.Ext(1, sample.Bytes(64)), sample.Have(1)} {
		b := pack.Bytes(m)
		bodies = append(bodies, b[:len(b)-1], append(slices.Clone(b), 0))
	}
	for who := range 2 {
		for _, state := range states()[1:] {
			h, f := in(t, who, state)
			was, d := h.tells(), h.d.Copy()
			for _, b := range bodies {
				if heard := h.carries(t, "no message", f, f.s.Send(b)); len(heard) != 0 || f.s.Len() != 0 {
					t.Fatalf("node %d in state %d: Take of %v: it told %v", who, state, b, sample.ShownAll(heard))
				}
				h.silent(t, "no message")
			}
			if state != api.Frozen && h.tells() != was || !sample.Alike(h.d, d) {
				t.Fatalf("node %d in state %d: %s, it was %s", who, state, h.tells(), was)
			}
		}
	}
}

// A packet that comes twice, or behind a later one, is taken once at most, in order.
func TestP32_4TwiceAndLate(t *testing.T) {
	for who := range 2 {
		h, f := in(t, who, api.Connected)
		one := f.s.Send(pack.Bytes(sample.Data(9, 2, bytesFor(9, 2))))[0]
		two := f.s.Send(pack.Bytes(sample.Data(10, 3, bytesFor(10, 2))))[0]
		h.takes(t, "the second one first", two)
		h.mails(t, "the second one first")
		if h.d.Ops() != h.plain.d.Ops() || h.has(3, bytesFor(10, 2)) {
			t.Fatalf("the second one came first")
		}
		h.takes(t, "the first one", one)
		h.says(t, "the first one", f, sample.Answer(isAck, 9))
		h.takes(t, "the second one", two)
		h.says(t, "the second one", f, sample.Answer(isAck, 10))
		ops := h.d.Ops()
		for range 3 {
			h.carries(t, "twice", f, [][]byte{one, two})
		}
		if h.d.Ops() != ops || !h.has(2, bytesFor(9, 1)) || !h.has(3, bytesFor(10, 2)) {
			t.Fatalf("they were done twice")
		}
	}
}

// A tick in each state sends what the session sends, and no more: a Hello, what is not acked, or a Ping.
func TestP32_4Ticks(t *testing.T) {
	for who := range 2 {
		h := halfOf(t, who)
		h.ticks(t, "stopped")
		h.silent(t, "stopped")
		h.begins(t)
		h.ticks(t, "none was heard")
		if list := h.mails(t, "none was heard"); len(list) != 1 || !slices.Equal(list[0], raw(t, api.Packet{From: 1, Kind: wire.Hello})) {
			t.Fatalf("a tick tells %v", list)
		}
		for _, state := range states()[1:] {
			h, f := in(t, who, state)
			for range 2 {
				h.ticks(t, "nothing is on its way")
				list := h.mails(t, "nothing is on its way")
				if len(list) != 1 {
					t.Fatalf("a tick tells %v", list)
				}
				if p, err := wire.Parse(list[0]); err != api.OK || p.Kind != wire.Ping || p.To != f.s.My() {
					t.Fatalf("a tick tells %+v", p)
				}
			}
			h.meets(t, "a new boot", farOf(t, 30), sample.Greet(dirty.Get(h.d), h.plain.was))
		}
		h, _ = in(t, who, api.Connected)
		ticket := h.asks(t, "a Data", write(1, 2, 2))
		first := h.mails(t, "a Data")
		for range 5 {
			h.ticks(t, "it is not acked")
			if list := h.mails(t, "it is not acked"); len(list) != 1 || !slices.Equal(list[0], first[0]) || !slices.Equal(h.n.Flying(), []int{ticket}) {
				t.Fatalf("a tick tells %v, want %v", list, first)
			}
		}
	}
}
