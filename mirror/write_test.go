package mirror_test

import (
	"fmt"
	"math"
	"slices"
	"testing"

	"twain/actlog"
	"twain/api"
	"twain/dirty"
	"twain/disk"
	"twain/sample"
)

// stored: did a Write, of a Mirror of that log, do just what it must: so many operations, its bytes durable, all other data as they were, the log as the hot set, the bitmap as it was?
func (n *node) stored(t *testing.T, what string, was *disk.Disk, s api.Span, b []byte, ops int) {
	t.Helper()
	if n.d.Ops() != was.Ops()+ops || len(n.d.Cached()) != 0 || n.d.Broken() {
		t.Fatalf("%s: %d operations, want %d; Cached %v", what, n.d.Ops()-was.Ops(), ops, n.d.Cached())
	}
	if !n.has(s, b) {
		t.Fatalf("%s: its bytes are not durable", what)
	}
	for sector := range n.d.Size() - 8 {
		if !sample.InSpan(s, sector) && n.d.Durable(8+sector) != was.Durable(8+sector) {
			t.Fatalf("%s: sector %d became another one", what, sector)
		}
	}
	if actlog.Get(n.d) != n.m.Hot() || dirty.Get(n.d) != dirty.Get(was) || needs(s)&^n.m.Hot() != 0 {
		t.Fatalf("%s: the log %#x, Hot %#x, the bitmap %#x, which was %#x", what, actlog.Get(n.d), n.m.Hot(), dirty.Get(n.d), dirty.Get(was))
	}
}

// Each span of up to MaxLen sectors, at both nodes, with its extents hot ahead of it, and not.
func TestP31_2Write(t *testing.T) {
	for _, sectors := range []int{1, 3, 4, 8, 13, 20} {
		for _, s := range sample.SmallSpans(sectors + 1) {
			if s.Len == 0 || s.Len > api.MaxLen || s.Off+s.Len > sectors {
				continue
			}
			for who := range 2 {
				for _, hot := range []uint64{0, needs(s), needs(s) | 1<<40, 1 << 41} {
					what := fmt.Sprintf("node %d of %d sectors, hot %#x, %v", who, sectors, hot, s)
					n, _ := makes(t, what, sample.Knowing(sectors+8, hot, 6), 4, who, hot)
					was := n.d.Copy()
					n.flies(t, what, 5, s)
					ops := s.Len + 1
					if hot&needs(s) != needs(s) {
						ops += 2
					}
					n.stored(t, what, was, s, bytesFor(5, s), ops)
					if got := n.m.Flights(); len(got) != 1 || got[0].State != isSent || n.m.Hot() != hot|needs(s) {
						t.Fatalf("%s: Flights %v, Hot %#x", what, flying(got), n.m.Hot())
					}
				}
			}
		}
	}
}

// Tickets of all sorts fly beside one another, whichever comes first, and are told by rising ones; sectors that stand beside one another do not overlap.
func TestP31_2ManyTickets(t *testing.T) {
	for name, through := range sample.WaysThrough[int]() {
		for who := range 2 {
			n := nodeOf(t, 64, 16, who)
			for i, ticket := range through(sample.Tickets()) {
				n.flies(t, name, ticket, at(4*i+i%2, 1+i%3))
			}
			var got []int
			for _, w := range n.m.Flights() {
				got = append(got, w.Ticket)
			}
			if !slices.Equal(got, sample.Tickets()) {
				t.Errorf("%s: Flights: %v", name, got)
			}
			for _, ticket := range through(sample.Tickets()) {
				n.refuses(t, name, ticket, at(60, 1))
			}
			for i := range sample.Tickets() {
				n.refuses(t, name, 77, at(4*i+i%2, 1))
			}
		}
	}
}

// The greatest Id of a message is the last ticket of the last boot; greater ones fly all the same.
func TestP31_2TicketsThatNoMessageHas(t *testing.T) {
	for _, ticket := range []int{1<<56 - 1, 1 << 56, 1<<56 + 1, math.MaxInt} {
		nodeOf(t, 8, 3, 0).flies(t, "a great ticket", ticket, at(0, 1))
	}
}

// The hot set turns when an extent comes that it has not, and just then the log is written; the one that was used longest ago leaves, unless a flight has it.
func TestP31_2TheHotSet(t *testing.T) {
	for who := range 2 {
		n := nodeOf(t, 64, 3, who)
		for i, c := range []struct {
			s    api.Span
			hot  uint64
			turn bool
			ends bool
		}{
			{at(0, 4), 1, true, true},
			{at(1, 2), 1, false, true},
			{at(4, 1), 3, true, true},
			{at(3, 2), 3, false, true},
			{at(20, 1), 0x23, true, true},
			{at(0, 1), 0x23, false, true},   // the order is 1, 5, 0
			{at(8, 4), 0x25, true, true},    // 1 leaves
			{at(40, 4), 0x405, true, false}, // 5 leaves, and 10 is busy
			{at(16, 1), 0x414, true, true},  // 0 leaves
			{at(12, 1), 0x418, true, true},  // 2 leaves
		} {
			what := fmt.Sprintf("node %d, write %d", who, i)
			was := n.d.Copy()
			n.flies(t, what, 100+i, c.s)
			ops := c.s.Len + 1
			if c.turn {
				ops += 2
			}
			n.stored(t, what, was, c.s, bytesFor(100+i, c.s), ops)
			if n.m.Hot() != c.hot {
				t.Fatalf("%s: Hot %#x, want %#x", what, n.m.Hot(), c.hot)
			}
			if c.ends {
				n.answers(t, what, sample.Answer(isAck, 100+i), 100+i)
			}
		}
		// 7, 8 and 9, with the busy 10.
		n.refuses(t, "four extents", 200, at(30, 8))
	}
}

// Of each room: so many extents fly together as there is room for; one more is refused, until one ends; a second write of an extent that flies needs no more room.
func TestP31_2WhatFits(t *testing.T) {
	for _, most := range rooms() {
		for who := range 2 {
			n := nodeOf(t, 80, most, who)
			for e := range most {
				n.flies(t, "there is room", 10+e, at(4*e, 2))
			}
			n.refuses(t, "no room", 99, at(4*most, 1))
			n.refuses(t, "no room for one of the two", 99, at(4*most-1, 2))
			n.flies(t, "an extent that flies", 98, at(4*most-1, 1))
			n.answers(t, "one ends", sample.Answer(isAck, 10+most-1), 10+most-1)
			n.refuses(t, "its extent flies still", 99, at(4*most, 1))
			n.answers(t, "the other one ends", sample.Answer(isOver, 98), 98)
			n.flies(t, "now there is room", 99, at(4*most, 1))
			if n.m.Hot() != (2<<most-1)&^(1<<(most-1)) {
				t.Errorf("most %d: Hot %#x", most, n.m.Hot())
			}
		}
	}
}

// A write of more extents than there is room for never fits; one of just so many does, where none is busy.
func TestP31_2WritesOfSeveralExtents(t *testing.T) {
	for _, most := range []int{1, 2, 3, 4} {
		for _, s := range []api.Span{at(0, 4), at(0, 5), at(3, 2), at(3, 6), at(4, 8), at(2, 8), at(7, 1), at(1, 12), at(0, 16)} {
			for _, hot := range []uint64{0, 7, 1 << 9, all} {
				n, _ := makes(t, "several extents", sample.Knowing(40, hot, 0), most, 0, hot)
				if len(sample.Members(needs(s))) > most {
					n.refuses(t, "no room", 5, s)
					continue
				}
				n.flies(t, "room", 5, s)
				if left := sample.Members(n.m.Hot()); len(left) > most {
					t.Errorf("most %d: %v are hot", most, left)
				}
			}
		}
	}
}

// Extents that are hot, and no flight has, are in nobody's way, even if there are more of them than there is room for.
func TestP31_2MoreHotThanRoom(t *testing.T) {
	for _, most := range rooms() {
		n, _ := makes(t, "all are hot", sample.Knowing(264, all, 0), most, 1, all)
		was := n.d.Copy()
		n.flies(t, "the first write", 5, at(9, 2))
		n.stored(t, "the first write", was, at(9, 2), bytesFor(5, at(9, 2)), 5)
		left := sample.Members(n.m.Hot())
		if len(left) != most || !slices.Contains(left, 2) || most > 1 && left[len(left)-1] != 63 {
			t.Errorf("most %d: %v are hot", most, left)
		}
	}
}

// An extent that a flight has stays hot when others come and go, however long that flies.
func TestP31_2WhatFliesStaysHot(t *testing.T) {
	for who := range 2 {
		n := nodeOf(t, 128, 3, who)
		n.flies(t, "stays", 1, at(50, 2))
		for i := range 60 {
			s := at(4*(i%30), 1)
			if needs(s) == needs(at(50, 2)) {
				continue
			}
			n.flies(t, "comes", 10+i, s)
			if n.m.Hot()&needs(at(50, 2)) == 0 || actlog.Get(n.d) != n.m.Hot() {
				t.Fatalf("write %d: Hot %#x, the log %#x", i, n.m.Hot(), actlog.Get(n.d))
			}
			n.answers(t, "goes", sample.Answer(isAck, 10+i), 10+i)
		}
	}
}

// Each sector of the area can be written, and none behind it; extents there are none behind the 64th, so what lies there makes none hot.
func TestP31_2BehindTheLastExtent(t *testing.T) {
	n := nodeOf(t, 1016, 1, 0)
	n.flies(t, "sectors without an extent", 1, at(256, 8))
	n.flies(t, "many sectors without an extent", 2, at(300, 700))
	n.flies(t, "the last sector", 3, at(1015, 1))
	if n.m.Hot() != 0 || actlog.Writes(n.d) != 5 {
		t.Errorf("Hot %#x, the log was written %d times", n.m.Hot(), actlog.Writes(n.d))
	}
	n.flies(t, "some with an extent", 4, at(252, 4))
	n.refuses(t, "another extent", 5, at(0, 1))
	if n.m.Hot() != 1<<63 {
		t.Errorf("Hot %#x", n.m.Hot())
	}
}

// wrongs: a Write of that, at both nodes, with a flight and one that may wait, on a disk that works, that breaks and that broke: ErrArg, and nothing is done, nor does an operation go.
func wrongs(t *testing.T, what string, ticket int, s api.Span, b []byte) {
	t.Helper()
	for who := range 2 {
		for _, fuse := range []int{-1, 0} {
			for _, broken := range []bool{false, true} {
				n := nodeOf(t, 13, 3, who)
				n.flies(t, what, 7, at(2, 3))
				n.takes(t, what, dataOf(8, at(4, 2)))
				n.fuse(fuse)
				if broken {
					n.fuse(0)
					n.d.Flush()
					n.plain.d.Flush()
				}
				n.writeStays(t, what, ticket, s, b, api.ErrArg)
				if n.d.Broken() != broken {
					t.Fatalf("%s: Broken %v", what, n.d.Broken())
				}
			}
		}
	}
}

func TestP31_2WrongTickets(t *testing.T) {
	for _, ticket := range sample.NoTickets() {
		for _, s := range []api.Span{at(8, 2), at(2, 3), at(0, 1), at(5, 1)} {
			wrongs(t, "no ticket", ticket, s, bytesFor(3, s))
		}
		wrongs(t, "no ticket, no span", ticket, at(13, 1), sample.Bytes(16))
		wrongs(t, "no ticket, no bytes", ticket, at(8, 1), nil)
	}
}

func TestP31_2WrongSpans(t *testing.T) {
	spans := append(sample.NoSpans()[:200], at(12, 2), at(13, 1), at(13, 0), at(0, 0), at(5, 0), at(12, 0), at(0, 14), at(14, 1), at(-1, 1), at(-1, 2), at(0, -1), at(5, -2), at(256, 1), at(1<<30, 1), at(0, 1<<30), at(1<<30, 1<<30), at(math.MaxInt, 1), at(1, math.MaxInt), at(math.MinInt, math.MinInt))
	for _, s := range spans {
		for _, size := range []int{0, 16, 32} {
			wrongs(t, "no span", 9, s, sample.Bytes(size))
		}
		if s.Len > 0 && s.Len < 100 {
			wrongs(t, "no span, with bytes for it", 9, s, sample.Bytes(16*s.Len))
		}
	}
}

// Spans whose bytes' number would wrap, or be that of another one by its low bits.
func TestP31_2SpansThatWrap(t *testing.T) {
	for _, s := range []api.Span{at(0, 1<<60), at(0, 1<<60+1), at(1, math.MaxInt), at(0, math.MinInt), at(1<<60, 1), at(0, 1<<32+1), at(1<<32, 1)} {
		for _, size := range []int{0, 16} {
			wrongs(t, "a span that wraps", 9, s, sample.Bytes(size))
		}
	}
}

func TestP31_2WrongBytes(t *testing.T) {
	for _, s := range []api.Span{at(8, 1), at(8, 2), at(5, 8), at(0, 13), at(2, 3), at(5, 1)} {
		for _, size := range []int{0, 1, 15, 16, 17, 31, 32, 33, 127, 128, 129, 207, 208, 209, 4096} {
			if size != 16*s.Len {
				wrongs(t, "wrong bytes", 9, s, sample.Bytes(size))
			}
		}
		wrongs(t, "no bytes", 9, s, nil)
		wrongs(t, "one too few", 9, s, sample.Bytes(16 * s.Len)[:16*s.Len-1])
		wrongs(t, "one too many", 9, s, sample.Bytes(16*s.Len+1))
		wrongs(t, "the ticket flies, too", 7, s, sample.Bytes(16*s.Len+1))
	}
}

// On each disk the last sector can be written, and the next one is not there; a disk without a data area has none.
func TestP31_2TheLastSector(t *testing.T) {
	for _, size := range []int{1, 7, 8, 9, 12, 13, 264, 265, api.MaxDisk} {
		for who := range 2 {
			n, _ := makes(t, "a disk", sample.Disk(size), 3, who, 0)
			n.writeStays(t, "behind the last sector", 1, at(max(size-8, 0), 1), sample.Bytes(16), api.ErrArg)
			if size > 9 {
				n.writeStays(t, "over the last sector", 1, at(size-9, 2), sample.Bytes(32), api.ErrArg)
			}
			if size > 8 {
				n.flies(t, "the last sector", 1, at(size-9, 1))
			}
		}
	}
}

// near: spans of up to three sectors that overlap those from 8 to 11, or not, each sector of each.
func near() []api.Span {
	return sample.CrossedSpans([]int{4, 5, 6, 7, 8, 9, 10, 11, 12, 13}, []int{1, 2, 3, 6})
}

// What overlaps a flight of each state, by one sector or more, is refused; what only stands beside it flies.
func TestP31_2BesideAFlight(t *testing.T) {
	for state := range 3 {
		for who := range 2 {
			for _, s := range near() {
				n := nodeOf(t, 24, 16, who)
				n.flies(t, "a flight", 5, at(8, 4))
				n.turnTo(t, 5, state)
				if sample.InBoth(s, at(8, 4)) {
					n.refuses(t, "it overlaps a flight", 6, s)
					n.answers(t, "it ends", sample.Answer(isAck, 5), 5)
				}
				n.flies(t, "it stands beside a flight", 6, s)
			}
		}
	}
}

// turnTo: the flight of that ticket is turned to that state, as all are where it is Held.
func (n *node) turnTo(t *testing.T, ticket, state int) {
	t.Helper()
	switch state {
	case isAgain:
		n.tells(t, "turned", sample.Answer(isRetry, ticket))
	case isHeld:
		n.holds(t, "turned")
	}
}

// What overlaps a write of the other node that waits is refused, until that has gone.
func TestP31_2BesideWhatWaits(t *testing.T) {
	for _, s := range near() {
		n := nodeOf(t, 24, 16, 1)
		n.flies(t, "a flight", 5, at(7, 1))
		n.tells(t, "it waits", dataOf(9, at(7, 5)))
		if sample.InBoth(s, at(7, 5)) {
			n.refuses(t, "it overlaps what waits", 6, s)
			n.answers(t, "the flight ends", sample.Answer(isAck, 5), 5)
			n.refuses(t, "it overlaps what waits still", 6, s)
			n.goesTo(t, "it goes", sample.Answer(isAck, 9))
		}
		n.flies(t, "it stands beside both", 6, s)
	}
}

// A ticket that flies is refused whatever its span is, and may come again behind its end.
func TestP31_2ATicketThatFlies(t *testing.T) {
	for state := range 3 {
		for who := range 2 {
			n := nodeOf(t, 24, 3, who)
			n.flies(t, "a flight", 5, at(8, 2))
			n.turnTo(t, 5, state)
			for _, s := range []api.Span{at(8, 2), at(8, 1), at(0, 1), at(20, 4)} {
				n.refuses(t, "it flies", 5, s)
			}
			n.answers(t, "it ends", sample.Answer(isOver, 5), 5)
			n.flies(t, "once more", 5, at(20, 4))
			n.refuses(t, "it flies again", 5, at(0, 1))
		}
	}
}

// A disk that broke: what is refused is so as ever; what may be is its error, and costs nothing.
func TestP31_2ABrokenDisk(t *testing.T) {
	for who := range 2 {
		for _, hot := range []uint64{0, 3} {
			n, _ := makes(t, "broken", sample.Knowing(32, hot, 0), 3, who, hot)
			n.flies(t, "ahead of it", 5, at(8, 2))
			n.takes(t, "ahead of it", dataOf(9, at(9, 2)))
			n.fuse(0)
			n.d.Flush()
			n.plain.d.Flush()
			n.refuses(t, "the ticket flies", 5, at(0, 1))
			n.refuses(t, "it overlaps a flight", 6, at(9, 1))
			if who == 1 {
				n.refuses(t, "it overlaps what waits", 6, at(10, 1))
			}
			n.refuses(t, "it does not fit", 6, at(0, 16))
			for _, s := range []api.Span{at(0, 1), at(0, 5), at(12, 1)} {
				was := n.d.Copy()
				if ok, told, err := n.writes(t, "broken", 6, s, bytesFor(6, s)); ok || told != nil || err != api.ErrDown || len(n.m.Flights()) != 1 {
					t.Errorf("node %d: %v, %v, %v, Flights %v", who, ok, sample.ShownAll(told), err, flying(n.m.Flights()))
				}
				leaves(t, "broken", n.d, was)
			}
		}
	}
}

// falls: a Write on a disk that has just so many operations left, and a crash that spares that.
func falls(t *testing.T, who, hot int, s api.Span, ops int, spares uint64) (done bool) {
	t.Helper()
	what := fmt.Sprintf("node %d, hot %#x, %v, with %d operations, and a crash that spares %#x", who, hot, s, ops, spares)
	n, _ := makes(t, what, sample.Knowing(40, uint64(hot), 9), 3, who, uint64(hot))
	n.flies(t, what, 3, at(28, 1))
	was := n.d.Copy()
	log, old := actlog.Get(n.d), n.m.Hot()
	n.fuse(ops)
	ok, told, err := n.writes(t, what, 5, s, bytesFor(5, s))
	if ok != (err == api.OK) || ok != (len(told) == 1) || ok != (len(n.m.Flights()) == 2) || n.d.Broken() != (err == api.ErrDown) || !n.d.Broken() && !ok || n.m.Hot() != old|needs(s) {
		t.Fatalf("%s: %v, %v, %v, Broken %v, Flights %v, Hot %#x", what, ok, sample.ShownAll(told), err, n.d.Broken(), flying(n.m.Flights()), n.m.Hot())
	}
	n.crash(spares)
	if ok && !n.has(s, bytesFor(5, s)) {
		t.Fatalf("%s: what flies is not durable", what)
	}
	now := actlog.Get(n.d)
	if now != log && now != n.m.Hot() || ok && now != n.m.Hot() {
		t.Fatalf("%s: the log %#x, which was %#x", what, now, log)
	}
	for sector := range 32 {
		turned := n.d.Durable(8+sector) != was.Durable(8+sector)
		if turned && (!sample.InSpan(s, sector) || now>>(sector/4)&1 == 0) {
			t.Fatalf("%s: sector %d became another one, and the log is %#x", what, sector, now)
		}
	}
	return ok
}

// Each operation of a Write is the one at which the disk breaks: an error, nothing flies, and nothing is told; behind a crash each sector that became another one is of an extent that the log has.
func TestP31_2TheFuseEndsWithinAWrite(t *testing.T) {
	for who := range 2 {
		for hot := range 4 {
			for _, s := range []api.Span{at(0, 1), at(3, 1), at(2, 4), at(0, 8)} {
				need := s.Len + 1
				if uint64(hot)&needs(s) != needs(s) {
					need += 2
				}
				for ops := range need + 2 {
					for _, spares := range []uint64{0, 1, 2, 0x55, 0xaa, all} {
						if done := falls(t, who, hot, s, ops, spares); done != (ops >= need) {
							t.Fatalf("node %d, hot %#x, %v, with %d operations, of which it needs %d: %v", who, hot, s, ops, need, done)
						}
					}
				}
			}
		}
	}
}

// A log that has no number left: its error, ahead of any write to the extent; a Write that does not turn the set needs none.
func TestP31_2BehindTheLastRecord(t *testing.T) {
	for who := range 2 {
		d := sample.Filled(24)
		sample.RingLay(d, 2, 4, math.MaxUint32, 1)
		n, _ := makes(t, "the last record", d, 3, who, 1)
		n.flies(t, "a hot extent", 4, at(0, 4))
		was := n.d.Copy()
		ok, told, err := n.writes(t, "the last record", 5, at(4, 1), sample.Bytes(16))
		if ok || told != nil || err != api.ErrRange || len(n.m.Flights()) != 1 {
			t.Errorf("node %d: %v, %v, %v", who, ok, sample.ShownAll(told), err)
		}
		leaves(t, "the last record", n.d, was)
	}
}

// The Flush of a Write makes all durable that is cached, whoever wrote it.
func TestP31_2AWriteFlushesAll(t *testing.T) {
	n := nodeOf(t, 16, 3, 0)
	for _, d := range []*disk.Disk{n.d, n.plain.d} {
		d.Write(20, api.Sector{7})
	}
	n.flies(t, "behind another one's write", 5, at(0, 1))
	if n.d.Durable(20) != (api.Sector{7}) || len(n.d.Cached()) != 0 {
		t.Errorf("Cached %v", n.d.Cached())
	}
}
