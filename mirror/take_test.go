package mirror_test

import (
	"fmt"
	"slices"
	"testing"

	"twain/actlog"
	"twain/api"
	"twain/dirty"
	"twain/disk"
	"twain/sample"
)

// kept: is the disk as it was, and are the hot set and the flights?
func (n *node) kept(t *testing.T, what string, was *disk.Disk, hot uint64, fly []string) {
	t.Helper()
	leaves(t, what, n.d, was)
	if n.m.Hot() != hot || !slices.Equal(flying(n.m.Flights()), fly) {
		t.Fatalf("%s: Hot %#x, Flights %v, want %#x, %v", what, n.m.Hot(), flying(n.m.Flights()), hot, fly)
	}
}

// What comes where nothing flies is stored, at either node, with as many operations as sectors, and one more; the log, the bitmap and the hot set are not asked.
func TestP31_3ADataThatIsApplied(t *testing.T) {
	for _, sectors := range []int{1, 4, 9, 20} {
		for _, s := range sample.SmallSpans(sectors + 1) {
			if s.Len == 0 || s.Len > api.MaxLen || s.Off+s.Len > sectors {
				continue
			}
			for who := range 2 {
				for _, hot := range []uint64{0, 1, all} {
					what := fmt.Sprintf("node %d of %d sectors, hot %#x, %v", who, sectors, hot, s)
					n, _ := makes(t, what, sample.Knowing(sectors+8, 5, 6), 3, who, hot)
					was := n.d.Copy()
					n.tells(t, what, dataOf(9, s), sample.Answer(isAck, 9))
					if n.d.Ops() != was.Ops()+s.Len+1 || len(n.d.Cached()) != 0 || !n.has(s, bytesFor(9, s)) || n.m.Hot() != hot || actlog.Get(n.d) != 5 || dirty.Get(n.d) != 6 {
						t.Fatalf("%s: %d operations, Cached %v, Hot %#x, the log %#x, the bitmap %#x", what, n.d.Ops()-was.Ops(), n.d.Cached(), n.m.Hot(), actlog.Get(n.d), dirty.Get(n.d))
					}
					for sector := range sectors {
						if !sample.InSpan(s, sector) && n.d.Durable(8+sector) != was.Durable(8+sector) {
							t.Fatalf("%s: sector %d became another one", what, sector)
						}
					}
				}
			}
		}
	}
}

// Around a flight of each state, at each node: over, again, later, or applied.
func TestP31_3EachVerdict(t *testing.T) {
	own := at(8, 4)
	for state := range 3 {
		for _, s := range near() {
			for who := range 2 {
				what := fmt.Sprintf("node %d, a flight of state %d, %v", who, state, s)
				n := nodeOf(t, 24, 3, who)
				n.flies(t, what, 5, own)
				n.turnTo(t, 5, state)
				was, hot, fly := n.d.Copy(), n.m.Hot(), flying(n.m.Flights())
				within := s.Off >= 8 && s.Off+s.Len <= 12
				switch overlaps := sample.InBoth(own, s); {
				case who == 0 && within:
					n.tells(t, what, dataOf(9, s), sample.Answer(isOver, 9))
				case who == 0 && overlaps:
					n.tells(t, what, dataOf(9, s), sample.Answer(isRetry, 9))
				case who == 1 && overlaps && state != isAgain:
					n.tells(t, what, dataOf(9, s))
					if later := n.m.Later(); len(later) != 1 || later[0] != s {
						t.Fatalf("%s: Later %v", what, later)
					}
				default:
					n.tells(t, what, dataOf(9, s), sample.Answer(isAck, 9))
					if n.d.Ops() != was.Ops()+s.Len+1 || !n.has(s, bytesFor(9, s)) || len(n.m.Later()) != 0 {
						t.Fatalf("%s: it is not applied; Later %v", what, n.m.Later())
					}
					continue
				}
				n.kept(t, what, was, hot, fly)
			}
		}
	}
}

// A Data that overlaps several flights: of the arbiter one that holds it makes it over, whichever that is, and several that do not, even together, make it come again; at the other node any that waits for its answer makes it wait.
func TestP31_3ADataOverSeveralFlights(t *testing.T) {
	for _, c := range []struct {
		own  []api.Span
		s    api.Span
		kind int
	}{
		{[]api.Span{at(0, 4), at(4, 4)}, at(2, 4), isRetry},
		{[]api.Span{at(0, 4), at(4, 4)}, at(0, 8), isRetry},
		{[]api.Span{at(0, 4), at(4, 4)}, at(4, 4), isOver},
		{[]api.Span{at(4, 4), at(0, 4)}, at(5, 2), isOver},
		{[]api.Span{at(0, 1), at(2, 1), at(4, 1)}, at(0, 5), isRetry},
		{[]api.Span{at(0, 1), at(2, 1), at(4, 1)}, at(2, 1), isOver},
		{[]api.Span{at(0, 1), at(2, 1), at(4, 1)}, at(3, 1), isAck},
		{[]api.Span{at(0, 1), at(8, 8)}, at(1, 7), isAck},
	} {
		n := nodeOf(t, 16, 4, 0)
		for i, s := range c.own {
			n.flies(t, "an own one", 20+i, s)
		}
		n.tells(t, fmt.Sprint(c.own, c.s), dataOf(9, c.s), sample.Answer(c.kind, 9))
		// Each choice of them is to be tried again: only the others keep it waiting.
		for choice := range 1 << len(c.own) {
			n := nodeOf(t, 16, 4, 1)
			waits := false
			for i, s := range c.own {
				n.flies(t, "an own one", 20+i, s)
				if choice>>i&1 == 1 {
					n.turnTo(t, 20+i, isAgain)
				} else {
					waits = waits || sample.InBoth(s, c.s)
				}
			}
			want := []api.Message{sample.Answer(isAck, 9)}
			if waits {
				want = nil
			}
			n.tells(t, fmt.Sprint(c.own, choice, c.s), dataOf(9, c.s), want...)
		}
	}
}

// A Data that comes twice is met twice: applied once more, refused once more, or waiting twice.
func TestP31_3ADataThatComesTwice(t *testing.T) {
	for who := range 2 {
		n := nodeOf(t, 16, 3, who)
		for range 3 {
			n.tells(t, "applied", dataOf(9, at(1, 2)), sample.Answer(isAck, 9))
		}
		n.flies(t, "an own one", 5, at(4, 4))
		for range 3 {
			if who == 0 {
				n.tells(t, "over", dataOf(9, at(5, 2)), sample.Answer(isOver, 9))
				n.tells(t, "again", dataOf(9, at(7, 2)), sample.Answer(isRetry, 9))
				continue
			}
			n.tells(t, "later", dataOf(9, at(5, 2)))
			n.tells(t, "later", dataOf(10, at(7, 2)))
		}
		n.answers(t, "it ends", sample.Answer(isAck, 5), 5)
		var acks []api.Message
		for range 3 * who {
			acks = append(acks, sample.Answer(isAck, 9), sample.Answer(isAck, 10))
		}
		n.goesTo(t, "what waited goes", acks...)
	}
}

// What waits keeps nothing waiting, at either node: only own writes do.
func TestP31_3ADataOverWhatWaits(t *testing.T) {
	n := nodeOf(t, 16, 3, 1)
	n.flies(t, "an own one", 5, at(4, 2))
	n.tells(t, "it waits", dataOf(9, at(5, 4)))
	n.tells(t, "it overlaps what waits alone", dataOf(10, at(7, 4)), sample.Answer(isAck, 10))
	n.tells(t, "it overlaps both", dataOf(11, at(5, 3)))
	if got := n.m.Later(); !slices.Equal(got, []api.Span{at(5, 4), at(5, 3)}) {
		t.Errorf("Later %v", got)
	}
}

// An Ack, and an Over, of a flight of each state: it ends, its ticket is answered, once, and the disk is as it was; of a Retry it is Again, and flies on.
func TestP31_3Answers(t *testing.T) {
	for who := range 2 {
		for state := range 3 {
			for _, kind := range []int{isAck, isOver, isRetry} {
				n := nodeOf(t, 24, 4, who)
				n.flies(t, "ahead", 4, at(0, 2))
				n.flies(t, "behind", 6, at(4, 2))
				n.flies(t, "the flight", 5, at(2, 2))
				n.turnTo(t, 5, state)
				others := []string{flying(n.m.Flights())[0], flying(n.m.Flights())[2]}
				was, hot, all := n.d.Copy(), n.m.Hot(), flying(n.m.Flights())
				x := sample.Answer(kind, 5)
				if kind == isRetry {
					n.tells(t, "a Retry", x)
					if got := n.m.Flights(); len(got) != 3 || got[1].State != isAgain {
						t.Errorf("a Retry of a flight of state %d: %v", state, flying(got))
					}
					all[1] = flying(n.m.Flights())[1]
					n.kept(t, "a Retry", was, hot, all)
					n.tells(t, "a Retry, twice", x)
					n.kept(t, "a Retry, twice", was, hot, all)
					continue
				}
				n.answers(t, "it ends", x, 5)
				n.kept(t, "it ends", was, hot, others)
				n.takeStays(t, "it ended", x, api.OK)
				n.takeStays(t, "it ended", sample.Answer(isRetry, 5), api.OK)
				n.takeStays(t, "it ended", sample.Answer(isAck+isOver-kind, 5), api.OK)
			}
		}
	}
}

// Flights that end in each order, whatever ended ahead of them.
func TestP31_3FlightsEndInAnyOrder(t *testing.T) {
	for _, order := range sample.Orders(4) {
		for who := range 2 {
			n := nodeOf(t, 24, 4, who)
			for i := range 4 {
				n.flies(t, "a flight", 10+i, at(3*i, 3))
			}
			for i, at := range order {
				n.answers(t, "it ends", sample.Answer(isAck+i%2, 10+at), 10+at)
			}
			if len(n.m.Flights()) != 0 {
				t.Errorf("in the order %v: Flights %v", order, flying(n.m.Flights()))
			}
		}
	}
}

// An answer to what does not fly does nothing, be it an Id beside one that does, that of a write of the other node that waits, or one with the same low bits.
func TestP31_3AnswersToWhatDoesNotFly(t *testing.T) {
	for who := range 2 {
		n := nodeOf(t, 24, 3, who)
		for _, id := range append(sample.Ids(), 1<<32+5, 261, 4, 6) {
			if id == 5 {
				continue
			}
			for _, kind := range []int{isAck, isOver, isRetry} {
				n.takeStays(t, "nothing flies", sample.Answer(kind, id), api.OK)
			}
		}
		n.flies(t, "a flight", 5, at(2, 2))
		n.takes(t, "one of the other node", dataOf(9, at(3, 2)))
		for _, id := range append(sample.Ids(), 1<<32+5, 261, 4, 6, 9) {
			if id == 5 {
				continue
			}
			for _, kind := range []int{isAck, isOver, isRetry} {
				n.takeStays(t, "another flies", sample.Answer(kind, id), api.OK)
			}
		}
	}
}

// A ticket and an Id of the other node may be the same number: each answers its own.
func TestP31_3TheSameNumberAtBoth(t *testing.T) {
	n := nodeOf(t, 24, 3, 1)
	n.flies(t, "own", 5, at(2, 2))
	n.tells(t, "the other one's", dataOf(5, at(2, 3)))
	n.answers(t, "own ends", sample.Answer(isAck, 5), 5)
	n.goesTo(t, "the other one's goes", sample.Answer(isAck, 5))
	n.flies(t, "own, once more", 5, at(2, 2))
	n.takeStays(t, "an End", api.Message{Kind: 8}, api.OK)
}

// Messages of the other Kinds do nothing, in whatever state all is.
func TestP31_3OtherKinds(t *testing.T) {
	for who := range 2 {
		for _, n := range []*node{nodeOf(t, 24, 3, who), busyNode(t, who)} {
			for _, x := range sample.Messages() {
				if x.Kind < 2 || x.Kind > 5 {
					n.takeStays(t, "another Kind", x, api.OK)
				}
			}
		}
	}
}

// busyNode: a node with a flight of each state, of the tickets 5, 6 and 7, and what waits, if it is not the arbiter.
func busyNode(t *testing.T, who int) *node {
	t.Helper()
	n := nodeOf(t, 32, 8, who)
	n.flies(t, "busy", 7, at(12, 3))
	n.holds(t, "busy")
	n.flies(t, "busy", 6, at(8, 2))
	n.flies(t, "busy", 5, at(2, 4))
	n.tells(t, "busy", sample.Answer(isRetry, 6))
	n.takes(t, "busy", dataOf(9, at(3, 1)))
	n.takes(t, "busy", dataOf(10, at(14, 2)))
	n.takes(t, "busy", dataOf(11, at(15, 2)))
	return n
}

func TestP31_3NoMessages(t *testing.T) {
	for who := range 2 {
		for _, n := range []*node{nodeOf(t, 24, 3, who), busyNode(t, who)} {
			for _, x := range sample.NoMessages() {
				n.takeStays(t, "no message", x, api.ErrArg)
			}
			n.fuse(0)
			for _, x := range sample.NoMessages()[:200] {
				n.takeStays(t, "no message, and no operation left", x, api.ErrArg)
			}
		}
	}
}

// All Data that may be: what the disk has not is its error, where it is to be applied; to refuse it, or to let it wait, the disk is not asked.
func TestP31_3AllData(t *testing.T) {
	for who := range 2 {
		for _, sectors := range []int{8, 24, 253, 264} {
			n := nodeOf(t, sectors, 3, who)
			for i, x := range sample.Messages() {
				if x.Kind == 2 && (i%7 == 0 || x.Id == 5) {
					n.takes(t, "all Data", x)
				}
			}
		}
		n := nodeOf(t, 16, 3, who)
		n.takeStays(t, "over the last sector", dataOf(9, at(15, 2)), api.ErrRange)
		n.takeStays(t, "behind the last sector", dataOf(9, at(16, 1)), api.ErrRange)
		n.tells(t, "the last sector", dataOf(9, at(15, 1)), sample.Answer(isAck, 9))
		n.flies(t, "an own one", 5, at(14, 2))
		if who == 0 {
			n.tells(t, "over the last sector, and again", dataOf(9, at(15, 2)), sample.Answer(isRetry, 9))
			continue
		}
		n.tells(t, "over the last sector, and later", dataOf(9, at(15, 2)))
		n.answers(t, "it ends", sample.Answer(isAck, 5), 5)
		if told, err := n.goes(t, "it may go"); err != api.ErrRange || told != nil || len(n.m.Later()) != 0 {
			t.Errorf("Go: %v, %v, Later %v", sample.ShownAll(told), err, n.m.Later())
		}
	}
}

// A disk without a data area has none of what comes.
func TestP31_3NoDataArea(t *testing.T) {
	for size := 1; size <= 8; size++ {
		for who := range 2 {
			n, _ := makes(t, "no data area", sample.Disk(size), 3, who, 7)
			n.takeStays(t, "no data area", dataOf(9, at(0, 1)), api.ErrRange)
			n.takeStays(t, "no data area", sample.Answer(isAck, 9), api.OK)
			n.goesTo(t, "no data area")
		}
	}
}

// A disk that broke is asked by what is to be applied alone.
func TestP31_3ABrokenDisk(t *testing.T) {
	for who := range 2 {
		n := busyNode(t, who)
		n.fuse(0)
		n.d.Flush()
		n.plain.d.Flush()
		n.takeStays(t, "to be applied", dataOf(12, at(20, 2)), api.ErrDown)
		n.takeStays(t, "of what there is not", dataOf(12, at(200, 2)), api.ErrRange)
		if who == 0 {
			n.tells(t, "over", dataOf(12, at(4, 2)), sample.Answer(isOver, 12))
			n.tells(t, "again", dataOf(12, at(5, 2)), sample.Answer(isRetry, 12))
		} else {
			n.tells(t, "later", dataOf(12, at(5, 2)))
		}
		n.tells(t, "a Retry", sample.Answer(isRetry, 5))
		n.answers(t, "an Ack", sample.Answer(isAck, 5), 5)
		n.answers(t, "an Over", sample.Answer(isOver, 6), 6)
		n.answers(t, "an Ack of one that is Held", sample.Answer(isAck, 7), 7)
	}
}

// Each operation of a Data is the one at which the disk breaks: an error, and nothing is told.
func TestP31_3TheFuseEndsWithinATake(t *testing.T) {
	for who := range 2 {
		for _, s := range []api.Span{at(0, 1), at(3, 2), at(20, 8)} {
			for ops := range s.Len + 3 {
				for _, spares := range []uint64{0, 1, 2, 0x55, all} {
					what := fmt.Sprintf("node %d, %v, with %d operations, and a crash that spares %#x", who, s, ops, spares)
					n := busyNode(t, who)
					n.answers(t, what, sample.Answer(isAck, 5), 5)
					fly, later := flying(n.m.Flights()), n.m.Later()
					n.fuse(ops)
					done, told, err := n.takes(t, what, dataOf(12, s))
					isDone := ops > s.Len
					if (err == api.OK) != isDone || !isDone && err != api.ErrDown || len(done) != 0 || (len(told) == 1) != isDone || n.d.Broken() == isDone {
						t.Fatalf("%s: %v, %v, %v, Broken %v", what, done, sample.ShownAll(told), err, n.d.Broken())
					}
					if !slices.Equal(flying(n.m.Flights()), fly) || !slices.Equal(n.m.Later(), later) {
						t.Fatalf("%s: Flights %v, Later %v", what, flying(n.m.Flights()), n.m.Later())
					}
					n.crash(spares)
					if isDone && !n.has(s, bytesFor(12, s)) {
						t.Fatalf("%s: it was told, and is not durable", what)
					}
					n.tells(t, what+", and once more", dataOf(12, s), sample.Answer(isAck, 12))
				}
			}
		}
	}
}
