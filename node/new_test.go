package node_test

import (
	"fmt"
	"math"
	"slices"
	"testing"

	"twain/api"
	"twain/disk"
	"twain/meta"
	"twain/node"
	"twain/sample"
	"twain/wire"
)

// sizes: how many sectors a disk has that is just large enough, a little larger, and as large as can be.
func sizes(c api.Config) []int {
	return []int{c.Sectors + 8, c.Sectors + 9, c.Sectors + 12, api.MaxDisk}
}

// Submit on a stopped node: ErrDown; started, it has a first ticket.
func TestP32_3Example(t *testing.T) {
	for who := range 2 {
		n, err := node.New(api.Config{Sectors: 16, Hot: 3, Table: 4, Window: 4, Patience: 3}, who, sample.Disk(24))
		if err != api.OK {
			t.Fatal(err)
		}
		if ticket, err := n.Submit(sample.Flush()); ticket != 0 || err != api.ErrDown {
			t.Errorf("Submit, stopped: %d, %v", ticket, err)
		}
		if err := n.Start(); err != api.OK {
			t.Errorf("Start: %v", err)
		}
		if ticket, err := n.Submit(sample.Flush()); ticket != 16777217 || err != api.OK || n.Status() != 1 || n.Boot() != 1 {
			t.Errorf("Submit: %d, %v; Status %d, Boot %d", ticket, err, n.Status(), n.Boot())
		}
	}
}

// Each of the settings that may be, both nodes, disks that are just large enough, and larger: it is stopped, and the disk is as it was.
func TestP32_1New(t *testing.T) {
	for _, c := range sample.Settings() {
		for who := range 2 {
			for _, size := range sizes(c) {
				h, err := makes(t, "may be", c, who, sample.Filled(size))
				if err != api.OK {
					t.Fatalf("New(%+v, %d) of a disk of %d: %v", c, who, size, err)
				}
				h.is(t, "new", api.Down)
				h.silent(t, "new")
			}
		}
	}
}

// A disk that broke, has things cached, or is to break, is one all the same: nothing is asked of it.
func TestP32_1NewAsksNothingOfTheDisk(t *testing.T) {
	for who := range 2 {
		cached := sample.Knowing(24, 1, 2)
		cached.Write(9, api.Sector{9})
		cached.Fuse(0)
		for _, d := range []*disk.Disk{sample.Broken(sample.Knowing(24, 1, 2)), cached} {
			h := halfWith(t, config(), who, d)
			h.silent(t, "new")
		}
		if len(cached.Cached()) != 1 || cached.Broken() {
			t.Errorf("Cached %v, Broken %v", cached.Cached(), cached.Broken())
		}
	}
}

func TestP32_1SettingsThatMayNotBe(t *testing.T) {
	for _, c := range sample.NoSettings() {
		for _, who := range []int{0, 1, 2} {
			for _, d := range []*disk.Disk{sample.Disk(24), sample.Disk(264), sample.Disk(api.MaxDisk), nil} {
				if h, err := makes(t, "no settings", c, who, d); h != nil || err != api.ErrArg {
					t.Fatalf("New(%+v, %d): %v", c, who, err)
				}
			}
		}
	}
}

func TestP32_1NoNodes(t *testing.T) {
	for _, who := range sample.NoNodes() {
		for _, c := range sample.Settings() {
			if h, err := makes(t, "no node", c, who, sample.Disk(c.Sectors+8)); h != nil || err != api.ErrArg {
				t.Fatalf("New(%+v, %d): %v", c, who, err)
			}
		}
	}
}

// Each size below what is needed, the one that lacks a sector among them.
func TestP32_1DisksThatAreTooSmall(t *testing.T) {
	for _, c := range sample.Settings() {
		for size := 1; size < c.Sectors+8; size++ {
			if h, err := makes(t, "too small", c, size%2, sample.Disk(size)); h != nil || err != api.ErrArg {
				t.Fatalf("New(%+v) of a disk of %d: %v", c, size, err)
			}
		}
	}
}

// A Disk that no call made is an argument that may not be, as any other.
func TestR5ADiskThatNoCallMade(t *testing.T) {
	for _, d := range []*disk.Disk{nil, {}, new(disk.Disk)} {
		for _, c := range append(sample.NoSettings(), sample.Settings()...) {
			for _, who := range []int{-1, 0, 1, 2} {
				if h, err := makes(t, "no disk", c, who, d); h != nil || err != api.ErrArg {
					t.Fatalf("New(%+v, %d): %v", c, who, err)
				}
			}
		}
		if d.Made() || d != nil && fmt.Sprint(*d) != fmt.Sprint(disk.Disk{}) {
			t.Errorf("a Disk that no call made became %v", d)
		}
	}
}

// Each start is of a new boot, with an empty table, and looks for the other one; its disk has the boot, durable.
func TestP32_1Start(t *testing.T) {
	for _, c := range sample.Settings() {
		for who := range 2 {
			for _, size := range sizes(c) {
				h := halfWith(t, c, who, sample.Knowing(size, 5, 2))
				for boot := 1; boot <= 4; boot++ {
					h.begins(t)
					if got, want := h.tells(), told(api.Greeting, uint32(boot), 0, nil, nil, 0, 0); got != want {
						t.Fatalf("start %d: %s, want %s", boot, got, want)
					}
					h.silent(t, "started")
					if meta.Look(h.d) != (meta.Meta{Boot: uint32(boot), Hot: 5, Dirty: 2}) || len(h.d.Cached()) != 0 {
						t.Fatalf("start %d: the disk tells %+v", boot, meta.Look(h.d))
					}
					h.asks(t, "started", sample.Flush())
					h.stops(t, "started")
				}
			}
		}
	}
}

// A node that runs, in whatever state: ErrState, and all is as it was.
func TestP32_1StartOfOneThatRuns(t *testing.T) {
	for who := range 2 {
		for _, state := range states()[1:] {
			h, f := in(t, who, state)
			h.asks(t, "it runs", write(1, 2, 2))
			was, d := h.tells(), h.d.Copy()
			for range 3 {
				if err := h.starts(t, "it runs"); err != api.ErrState {
					t.Fatalf("Start: %v", err)
				}
			}
			if h.tells() != was || !sample.Alike(h.d, d) {
				t.Fatalf("state %d, behind a Start: %s, it was %s", state, h.tells(), was)
			}
			h.sends(t, "it runs", f)
		}
	}
}

// A disk on which there is no boot: ErrDown, where it broke, or breaks at either operation; ErrRange behind the last boot. It stays stopped, and may be started again when it can be.
func TestP32_1StartThatFails(t *testing.T) {
	for who := range 2 {
		h := halfWith(t, config(), who, sample.Broken(sample.Knowing(24, 0, 0)))
		for range 2 {
			if err := h.starts(t, "broken"); err != api.ErrDown {
				t.Fatalf("Start on a disk that broke: %v", err)
			}
			h.is(t, "broken", api.Down)
			h.silent(t, "broken")
		}
		h.crash(0)
		h.begins(t)
		last := sample.Knowing(24, 0, 0)
		sample.RingLay(last, 0, 2, 9, math.MaxUint32)
		h = halfWith(t, config(), who, last)
		for range 2 {
			if err := h.starts(t, "no boot left"); err != api.ErrRange {
				t.Fatalf("Start behind the last boot: %v", err)
			}
			h.is(t, "no boot left", api.Down)
			h.silent(t, "no boot left")
		}
	}
}

// Each operation of a Start is the one at which the disk breaks; behind any crash the next start has a boot that no start had.
func TestP32_1TheFuseEndsWithinAStart(t *testing.T) {
	for who := range 2 {
		for ops := range 4 {
			for _, spares := range []uint64{0, 1, 2, math.MaxUint64} {
				h := halfOf(t, who)
				h.fuse(ops)
				err := h.starts(t, "it breaks")
				if (err == api.OK) != (ops >= 2) || err != api.OK && err != api.ErrDown {
					t.Fatalf("with %d operations: Start: %v", ops, err)
				}
				boot := h.n.Boot()
				h.silent(t, "it breaks")
				h.stops(t, "it breaks")
				h.crash(spares)
				h.begins(t)
				if h.n.Boot() <= boot {
					t.Fatalf("with %d operations: boot %d behind boot %d", ops, h.n.Boot(), boot)
				}
			}
		}
	}
}

// The last boot that there is can be started, and none behind it; its tickets are the greatest.
func TestP32_1TheLastBoot(t *testing.T) {
	d := sample.Knowing(24, 0, 0)
	sample.RingLay(d, 0, 2, 9, math.MaxUint32-1)
	h := halfWith(t, config(), 0, d)
	h.begins(t)
	if ticket := h.asks(t, "the last boot", sample.Flush()); h.n.Boot() != math.MaxUint32 || ticket != math.MaxUint32<<24+1 {
		t.Errorf("Boot %d, the ticket %d", h.n.Boot(), ticket)
	}
	h.stops(t, "the last boot")
	if err := h.starts(t, "none is left"); err != api.ErrRange {
		t.Errorf("Start: %v", err)
	}
}

// A superblock, a log and a bitmap that may not be read tell nothing: the boot is the first one, and nothing is known to be unlike.
func TestP32_1SectorsThatMayNotBeRead(t *testing.T) {
	for who := range 2 {
		for at := range 8 {
			d := sample.Knowing(24, 9, 6)
			sample.RingLay(d, 0, 2, 5, 40)
			sample.Lay(d, at, api.Sector{1, 2, 3})
			h := halfWith(t, config(), who, d)
			h.begins(t)
			mask := uint64(15)
			switch at {
			case sample.RingPlace(5, 0, 2):
				if h.n.Boot() != 1 {
					t.Errorf("Boot %d", h.n.Boot())
				}
			case sample.RingPlace(5, 2, 4):
				mask = 6
			case sample.RingPlace(5, 6, 2):
				mask = 9
			}
			h.meets(t, "it may not be read", farOf(t, 7), sample.Greet(mask, false))
		}
	}
}

// What the log and the bitmap have stands in the Greet, and the hot set has what the log had: a write to another extent pushes one of it out.
func TestP32_1WhatAStartKnows(t *testing.T) {
	for who := range 2 {
		for _, hot := range []uint64{0, 1, 5, 7, 0xf} {
			for _, dirty := range []uint64{0, 2, 7, 1 << 63} {
				h, f := halfWith(t, config(), who, sample.Knowing(24, hot, dirty)), farOf(t, 3)
				h.begins(t)
				h.meets(t, "what it knows", f, sample.Greet(hot|dirty, false))
			}
		}
	}
}

// Stop in each state, with requests, flights and messages on their way: nothing is known any more, but what is on the disk, which is as it was; nothing comes of what it had, and a start begins anew.
func TestP32_1Stop(t *testing.T) {
	for who := range 2 {
		for _, state := range states() {
			h, f := in(t, who, state)
			var tickets []int
			if state != api.Down {
				for _, r := range []api.Request{write(1, 2, 2), sample.Read(2, 2), sample.Read(9, 1)} {
					tickets = append(tickets, h.asks(t, "ahead", r))
				}
			}
			what := fmt.Sprintf("node %d in state %d", who, state)
			was := h.d.Copy()
			for range 2 {
				h.stops(t, what)
				if got, want := h.tells(), told(api.Down, 0, 0, nil, nil, 0, 0); got != want {
					t.Fatalf("%s, stopped: %s, want %s", what, got, want)
				}
				h.silent(t, what)
			}
			if !sample.Alike(h.d, was) {
				t.Fatalf("%s: Stop did something to the disk", what)
			}
			h.ticks(t, what)
			for _, b := range f.s.Tick() {
				h.takes(t, what, b)
			}
			h.silent(t, what)
			h.begins(t)
			h.silent(t, what)
			if ticket := h.asks(t, what, sample.Flush()); slices.Contains(tickets, ticket) {
				t.Fatalf("%s: ticket %d was told ahead of the stop", what, ticket)
			}
		}
	}
}

// What was completed, and what was to go out, ahead of a Stop is forgotten with all else.
func TestP32_1WhatAStopForgets(t *testing.T) {
	for who := range 2 {
		h, _ := in(t, who, api.Connected)
		h.asks(t, "a read", sample.Read(2, 2))
		h.asks(t, "a write", write(1, 2, 2))
		h.stops(t, "both")
		h.silent(t, "both")
		h.begins(t)
		h.silent(t, "both")
	}
}

// A node that was Connected tells so, as long as it runs; one that was stopped since does not.
func TestP32_4Was(t *testing.T) {
	for who := range 2 {
		h, _ := in(t, who, api.Connected)
		for boot := uint32(8); boot < 11; boot++ {
			h.meets(t, "it was", farOf(t, boot), sample.Greet(0, true))
		}
		h.stops(t, "it was")
		h.begins(t)
		for boot := uint32(8); boot < 11; boot++ {
			h.meets(t, "it was not", farOf(t, boot), sample.Greet(0, false))
		}
		h.joins(t, farOf(t, 11), false)
		h.meets(t, "it was again", farOf(t, 12), sample.Greet(0, true))
	}
}

// A node that is stopped takes nothing, and tells nothing, whatever comes: ErrDown, for whatever is asked of it, be it wrong or not.
func TestP32_3Stopped(t *testing.T) {
	for who := range 2 {
		for _, d := range []*disk.Disk{sample.Knowing(24, 0, 0), sample.Broken(sample.Disk(24))} {
			h := halfWith(t, config(), who, d)
			for i, r := range append(sample.NoRequests(16), sample.Read(0, 1), write(1, 2, 2), sample.Flush()) {
				if ticket, err := h.submits(t, "stopped", r); ticket != 0 || err != api.ErrDown {
					t.Fatalf("Submit(%d, %v): %d, %v", r.Kind, r.Span, ticket, err)
				}
				if i%50 == 0 {
					h.ticks(t, "stopped")
					h.takes(t, "stopped", wire.Bytes(api.Packet{From: 5, Kind: wire.Hello}))
					h.silent(t, "stopped")
				}
			}
		}
	}
}

// The records of the superblock are chapter 8's: a boot that another layer counts is the one that the node runs with.
func TestP32_2Boot(t *testing.T) {
	for _, boot := range []uint32{1, 2, 255, 1 << 16, 1 << 31, math.MaxUint32 - 1} {
		d := sample.Knowing(24, 0, 0)
		sample.RingLay(d, 0, 2, 3, uint64(boot))
		h := halfWith(t, config(), 1, d)
		h.begins(t)
		if h.n.Boot() != boot+1 {
			t.Errorf("Boot %d behind boot %d", h.n.Boot(), boot)
		}
		if n, word := sample.RingLatest(h.d, 0, 2); n != 4 || word != uint64(boot)+1 {
			t.Errorf("the superblock tells %d, %d", n, word)
		}
		h.silent(t, "a boot")
	}
}
