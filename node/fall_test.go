package node_test

import (
	"fmt"
	"math"
	"testing"

	"twain/api"
	"twain/disk"
	"twain/pack"
	"twain/sample"
)

// down: is it stopped, by a step that failed: does it tell nothing at all?
func (h *half) down(t *testing.T, what string) {
	t.Helper()
	if got, want := h.tells(), told(api.Down, 0, 0, nil, nil, 0, 0); got != want {
		t.Fatalf("%s: %s, want %s", what, got, want)
	}
	h.silent(t, what)
	if ticket, err := h.submits(t, what, sample.Flush()); ticket != 0 || err != api.ErrDown {
		t.Fatalf("%s: Submit: %d, %v", what, ticket, err)
	}
}

// falls: each operation of a call is the one at which the disk breaks. So many there are; with fewer the node is stopped, and tells nothing, and can be started when the disk has crashed, whatever the crash spares; with as many it is as it would be.
func falls(t *testing.T, what string, fresh func() *half, call func(*half), ops int) {
	t.Helper()
	for k := range ops + 2 {
		for _, spares := range []uint64{0, 1, 6, math.MaxUint64} {
			what := fmt.Sprintf("%s, with %d operations", what, k)
			h := fresh()
			boot := h.n.Boot()
			h.fuse(k)
			call(h)
			if (h.n.Status() == api.Down) != (k < ops) || h.d.Broken() != (k < ops) {
				t.Fatalf("%s: %s, Broken %v", what, h.tells(), h.d.Broken())
			}
			if k < ops {
				h.down(t, what)
				if err := h.starts(t, what); err != api.ErrDown {
					t.Fatalf("%s: Start: %v", what, err)
				}
				h.crash(spares)
				h.begins(t)
				if h.n.Boot() != boot+1 {
					t.Fatalf("%s: Boot %d behind %d", what, h.n.Boot(), boot)
				}
				h.silent(t, what)
			}
		}
	}
}

// packet: the one by which the far one tells that.
func (f *far) packet(m api.Message) []byte { return f.s.Send(pack.Bytes(m))[0] }

// A Submit of a write answers its ticket all the same: the log is put, its sectors are written, and flushed.
func TestP32_6SubmitOfAWrite(t *testing.T) {
	for who := range 2 {
		falls(t, "a write", func() *half {
			h, _ := in(t, who, api.Connected)
			return h
		}, func(h *half) {
			if ticket := h.asks(t, "a write", write(1, 2, 3)); ticket != 1<<24+1 {
				t.Fatalf("ticket %d", ticket)
			}
		}, 6)
	}
}

// A Submit of a read, and of a write, on a disk that broke meanwhile; a flush asks nothing of it, nor does a tick.
func TestP32_6ADiskThatBrokeMeanwhile(t *testing.T) {
	for who := range 2 {
		for _, r := range []api.Request{sample.Read(3, 2), write(1, 3, 2)} {
			h, _ := in(t, who, api.Connected)
			h.breaks()
			if ticket := h.asks(t, "it broke", r); ticket != 1<<24+1 {
				t.Fatalf("ticket %d", ticket)
			}
			h.down(t, "it broke")
		}
		h, f := in(t, who, api.Connected)
		h.breaks()
		h.ends(t, "a flush", h.asks(t, "a flush", sample.Flush()))
		for range 5 {
			h.ticks(t, "a tick")
		}
		h.is(t, "a tick", api.Frozen)
		h.hears(t, "no sector is needed", f, sample.Answer(isAck, 5))
		h.is(t, "no sector is needed", api.Connected)
		h.hears(t, "a Data", f, sample.Data(5, 2, sample.Bytes(16)))
		h.down(t, "a Data")
	}
}

// A new boot's packet asks nothing of a disk that broke, where nothing is to be tried again: the Greet has what is hot, for the bitmap tells nothing; the Greet that comes stops it.
func TestP32_6ANewBootOnADiskThatBroke(t *testing.T) {
	for who := range 2 {
		h, f := in(t, who, api.Connected)
		for i, off := range []int{0, 9} {
			ticket := h.asks(t, "hot", write(i, off, 2))
			h.sends(t, "hot", f)
			h.hears(t, "hot", f, sample.Answer(isAck, ticket))
		}
		h.polls(t, "hot")
		h.breaks()
		f = farOf(t, 8)
		h.meets(t, "it broke", f, sample.Greet(5, true))
		h.takes(t, "it broke", f.packet(sample.Greet(0, false)))
		h.down(t, "it broke")
	}
}

// breaks: the disk breaks by what the node did not do.
func (h *half) breaks() {
	for _, d := range []*disk.Disk{h.d, h.plain.d} {
		d.Fuse(0)
		d.Flush()
	}
}

// A tick does no operation, whatever flies and waits: with none left the node runs on.
func TestP32_6Ticks(t *testing.T) {
	for who := range 2 {
		for _, state := range states()[1:] {
			h, f := in(t, who, state)
			for _, r := range []api.Request{write(1, 2, 2), write(2, 3, 2), sample.Read(2, 1), sample.Flush()} {
				h.asks(t, "ahead", r)
			}
			h.sends(t, "ahead", f)
			h.hears(t, "ahead", f, sample.Data(9, 3, sample.Bytes(16)))
			h.fuse(0)
			for range 5 {
				h.ticks(t, "no operation is left")
			}
			if h.d.Broken() || h.n.Status() == api.Down {
				t.Fatalf("node %d in state %d: %s", who, state, h.tells())
			}
		}
	}
}

// A Take of a Data: its sectors are written, and flushed; no Ack is told where that failed.
func TestP32_6TakeOfAData(t *testing.T) {
	for who := range 2 {
		var f *far
		falls(t, "a Data", func() *half {
			var h *half
			h, f = in(t, who, api.Connected)
			return h
		}, func(h *half) { h.takes(t, "a Data", f.packet(sample.Data(9, 2, sample.Bytes(48)))) }, 4)
	}
}

// A Take of an Ack, behind which a write that waited goes; at the node that is not the arbiter also what waited here, ahead of it, and a flight that is tried again. None of it is told where one of the operations fails, nor that the flight ended.
func TestP32_6TakeOfAnAck(t *testing.T) {
	c := config()
	c.Hot = 16
	for who := range 2 {
		var f *far
		falls(t, "an Ack", func() *half {
			h := halfWith(t, c, who, sample.Knowing(24, 0, 0))
			f = h.goesTo(t, api.Connected)
			h.asks(t, "ahead", write(1, 2, 2))
			two := h.asks(t, "ahead", write(2, 4, 2))
			h.asks(t, "over the first", write(3, 1, 2))
			h.sends(t, "ahead", f)
			h.hears(t, "over both", f, sample.Data(9, 3, sample.Bytes(32)))
			if who == 1 {
				h.hears(t, "again", f, sample.Answer(isRetry, two))
			}
			return h
		}, func(h *half) { h.takes(t, "an Ack", f.packet(sample.Answer(isAck, 1<<24+1))) }, []int{3, 9}[who])
	}
}

// A Take of a new boot's packet, where flights are to be tried again: they are written ahead of the Greet, or none is told.
func TestP32_6TakeOfANewBoot(t *testing.T) {
	c := config()
	c.Hot = 16
	falls(t, "a new boot", func() *half {
		h := halfWith(t, c, 1, sample.Knowing(24, 0, 0))
		f := h.goesTo(t, api.Connected)
		h.asks(t, "it keeps one waiting", write(1, 0, 4))
		two := h.asks(t, "to be tried again", write(2, 4, 4))
		h.sends(t, "they fly", f)
		h.answers(t, "it waits here", f, sample.Data(9, 3, bytesFor(9, 2)))
		h.answers(t, "it waits, too", f, sample.Answer(isRetry, two))
		return h
	}, func(h *half) { h.takes(t, "a new boot", farOf(t, 8).s.Tick()[0]) }, 5)
}

// A Take of a Greet: the bitmap, and then the log, are put; nothing is told, no Ext either, where that failed.
func TestP32_6TakeOfAGreet(t *testing.T) {
	for who := range 2 {
		for _, was := range []bool{false, true} {
			var f *far
			falls(t, "a Greet", func() *half {
				h := halfWith(t, config(), who, sample.Knowing(24, 3, 8))
				f = farOf(t, 7)
				h.begins(t)
				h.meets(t, "it meets", f, sample.Greet(11, false))
				return h
			}, func(h *half) { h.takes(t, "a Greet", f.packet(sample.Greet(4, was))) }, 4)
		}
	}
}

// A Take of an Ext: its four sectors are written, and flushed, and it leaves the bitmap; no Have is told where that failed.
func TestP32_6TakeOfAnExt(t *testing.T) {
	for who := range 2 {
		var f *far
		falls(t, "an Ext", func() *half {
			var h *half
			h, f = in(t, who, api.Target)
			return h
		}, func(h *half) { h.takes(t, "an Ext", f.packet(sample.Ext(2, sample.Bytes(64)))) }, 7)
	}
}

// A Take of the last Have, behind which the node serves: the extent leaves the bitmap, and a read, a write and a flush that waited go. No End is told, and nothing is completed, where one of the operations fails, were it the last one.
func TestP32_6TakeOfTheLastHave(t *testing.T) {
	for who := range 2 {
		var f *far
		falls(t, "the last Have", func() *half {
			var h *half
			h, f = in(t, who, api.Source)
			for _, r := range []api.Request{sample.Flush(), sample.Read(2, 2), write(1, 2, 2)} {
				h.asks(t, "ahead", r)
			}
			h.hears(t, "ahead", f, sample.Have(1))
			return h
		}, func(h *half) { h.takes(t, "the last Have", f.packet(sample.Have(2))) }, 2+5)
	}
}

// A Take of End, at a Target whose requests waited.
func TestP32_6TakeOfEnd(t *testing.T) {
	for who := range 2 {
		var f *far
		falls(t, "End", func() *half {
			var h *half
			h, f = in(t, who, api.Target)
			for _, r := range []api.Request{sample.Read(2, 2), write(1, 2, 2), write(2, 8, 1)} {
				h.asks(t, "ahead", r)
			}
			return h
		}, func(h *half) { h.takes(t, "End", f.packet(end())) }, 5+4)
	}
}

// A Take of a word that wakes a Frozen node.
func TestP32_6TakeOfAWord(t *testing.T) {
	for who := range 2 {
		var f *far
		falls(t, "a word", func() *half {
			var h *half
			h, f = in(t, who, api.Frozen)
			for _, r := range []api.Request{sample.Read(2, 2), write(1, 2, 2), sample.Flush()} {
				h.asks(t, "ahead", r)
			}
			return h
		}, func(h *half) { h.takes(t, "a word", f.s.Tick()[0]) }, 5)
	}
}

// What was completed, and sent, ahead of the call, and not asked for, is forgotten, too: the node is stopped.
func TestP32_6WhatWasToldAheadOfTheCall(t *testing.T) {
	for who := range 2 {
		h, _ := in(t, who, api.Connected)
		h.asks(t, "a read", sample.Read(2, 2))
		h.asks(t, "a write", write(1, 2, 2))
		h.fuse(1)
		h.asks(t, "it breaks", write(2, 8, 2))
		h.down(t, "it breaks")
	}
}

// The other one tells of sectors that the disk has not: the node is stopped, though its disk works; it may be started again.
func TestP32_6WhatThereIsNot(t *testing.T) {
	for who := range 2 {
		for _, size := range []int{24, 25, 27} {
			for _, c := range []struct {
				state int
				m     api.Message
			}{
				{api.Connected, sample.Data(9, size-8, sample.Bytes(16))},
				{api.Connected, sample.Data(9, size-9, sample.Bytes(32))},
				{api.Connected, sample.Data(9, 255, sample.Bytes(128))},
				{api.Frozen, sample.Data(9, 100, sample.Bytes(16))},
				{api.Target, sample.Ext(4, sample.Bytes(64))},
				{api.Target, sample.Ext(63, sample.Bytes(64))},
			} {
				h := halfWith(t, config(), who, sample.Knowing(size, 0, 0))
				f := h.goesTo(t, c.state)
				h.asks(t, "ahead", sample.Flush())
				was := h.d.Copy()
				h.takes(t, "what there is not", f.packet(c.m))
				h.down(t, "what there is not")
				if h.d.Broken() || !sample.Alike(h.d, was) {
					t.Fatalf("%s did something to the disk", sample.Shown(c.m))
				}
				h.begins(t)
				if h.n.Boot() != 2 {
					t.Fatalf("Boot %d", h.n.Boot())
				}
			}
		}
	}
}

// What the disk has beyond the data area of the settings may be told of: it is there.
func TestP32_6WhatThereIsBeyondTheSettings(t *testing.T) {
	for who := range 2 {
		h := halfWith(t, config(), who, sample.Knowing(40, 0, 0))
		f := h.goesTo(t, api.Target)
		h.answers(t, "an extent", f, sample.Ext(5, sample.Bytes(64)), sample.Have(5))
		h.copies(t, f)
		h.answers(t, "a write", f, sample.Data(9, 30, bytesFor(9, 2)), sample.Answer(isAck, 9))
		if !h.has(20, sample.Bytes(64)) || !h.has(30, bytesFor(9, 2)) {
			t.Fatalf("it is not there")
		}
	}
}
