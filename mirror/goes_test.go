package mirror_test

import (
	"fmt"
	"slices"
	"testing"

	"twain/api"
	"twain/disk"
	"twain/sample"
)

// states: of each flight its state, by rising tickets.
func (n *node) states() []int {
	var list []int
	for _, w := range n.m.Flights() {
		list = append(list, w.State)
	}
	return list
}

// Where nothing waits, and nothing is to be tried again, a Go does nothing, whatever flies, and even if the disk broke.
func TestP31_4GoOfNothing(t *testing.T) {
	for who := range 2 {
		n := nodeOf(t, 24, 4, who)
		idles := func(what string) {
			t.Helper()
			was, hot, fly := n.d.Copy(), n.m.Hot(), flying(n.m.Flights())
			for range 2 {
				n.goesTo(t, what)
			}
			n.kept(t, what, was, hot, fly)
		}
		idles("a new one")
		n.flies(t, "a flight", 5, at(2, 2))
		idles("a flight that is Sent")
		n.holds(t, "a flight")
		idles("a flight that is Held")
		n.flies(t, "a flight", 6, at(8, 2))
		n.fuse(0)
		idles("no operation is left")
		n.d.Flush()
		n.plain.d.Flush()
		idles("the disk broke")
	}
}

// What waits goes when the last own one that keeps it waiting has ended, or is to be tried again; it is stored with as many operations as sectors, and one more.
func TestP31_4WhatWaitsGoes(t *testing.T) {
	for _, s := range near() {
		if !sample.InBoth(s, at(8, 4)) {
			continue
		}
		for _, kind := range []int{isAck, isOver, isRetry} {
			n := nodeOf(t, 24, 8, 1)
			n.flies(t, "an own one", 5, at(8, 4))
			n.flies(t, "another one", 6, at(20, 4))
			n.tells(t, "it waits", dataOf(9, s))
			n.goesTo(t, "it waits still")
			n.takes(t, "the answer", sample.Answer(kind, 5))
			was, hot := n.d.Copy(), n.m.Hot()
			want := []api.Message{sample.Answer(isAck, 9)}
			ops := s.Len + 1
			if kind == isRetry {
				want = append(want, dataOf(5, at(8, 4)))
				ops += 5
			}
			n.goesTo(t, "it goes", want...)
			if n.d.Ops() != was.Ops()+ops || len(n.d.Cached()) != 0 || len(n.m.Later()) != 0 || n.m.Hot() != hot {
				t.Fatalf("%v: %d operations, want %d; Cached %v, Later %v, Hot %#x", s, n.d.Ops()-was.Ops(), ops, n.d.Cached(), n.m.Later(), n.m.Hot())
			}
			if kind != isRetry && !n.has(s, bytesFor(9, s)) {
				t.Fatalf("%v: it is not stored", s)
			}
			n.goesTo(t, "nothing is left")
		}
	}
}

// Of several that wait those go that no own one keeps waiting, in the order in which they came, and what overlaps them does not keep them.
func TestP31_4SeveralThatWait(t *testing.T) {
	own := []api.Span{at(0, 2), at(4, 2), at(8, 2)}
	theirs := []api.Span{at(1, 1), at(4, 5), at(5, 1), at(9, 3), at(1, 8), at(1, 4)}
	for _, order := range sample.Orders(len(own)) {
		for name, through := range sample.WaysThrough[int]() {
			n := nodeOf(t, 16, 4, 1)
			for i, s := range own {
				n.flies(t, name, 20+i, s)
			}
			rest := through([]int{0, 1, 2, 3, 4, 5})
			for _, i := range rest {
				n.tells(t, name, dataOf(30+i, theirs[i]))
			}
			var left []int
			for _, at := range order {
				n.answers(t, name, sample.Answer(isAck, 20+at), 20+at)
				left = append(left, at)
				var want []api.Message
				rest = slices.DeleteFunc(rest, func(i int) bool {
					for j, s := range own {
						if !slices.Contains(left, j) && sample.InBoth(s, theirs[i]) {
							return false
						}
					}
					want = append(want, sample.Answer(isAck, 30+i))
					return true
				})
				n.goesTo(t, name, want...)
			}
			if len(rest) != 0 || len(n.m.Later()) != 0 {
				t.Errorf("%s: %v are left, Later %v", name, rest, n.m.Later())
			}
		}
	}
}

// The later one of two that overlap, and go together, is what the sectors have.
func TestP31_4TheOrderOfWhatWaits(t *testing.T) {
	for _, ids := range [][2]int{{9, 10}, {10, 9}} {
		n := nodeOf(t, 16, 4, 1)
		n.flies(t, "an own one", 5, at(0, 8))
		n.tells(t, "the first", dataOf(ids[0], at(1, 4)))
		n.tells(t, "the second", dataOf(ids[1], at(3, 4)))
		n.answers(t, "it ends", sample.Answer(isAck, 5), 5)
		n.goesTo(t, "both go", sample.Answer(isAck, ids[0]), sample.Answer(isAck, ids[1]))
		if !n.has(at(3, 4), bytesFor(ids[1], at(3, 4))) || !n.has(at(1, 2), bytesFor(ids[0], at(1, 4))[:32]) {
			t.Errorf("%v: the sectors have others' bytes", ids)
		}
	}
}

// Flights that are to be tried again are stored and told by rising tickets, whichever came first, was written first or stands first; the others fly on.
func TestP31_4FlightsThatAreAgain(t *testing.T) {
	tickets := []int{3, 40, 5, 1 << 40, 17}
	for choice := range 1 << len(tickets) {
		for who := range 2 {
			n := nodeOf(t, 40, 8, who)
			for i, ticket := range tickets {
				n.flies(t, "a flight", ticket, at(6*i, 1+i))
			}
			ops := 0
			var again []int
			for i, ticket := range tickets {
				if choice>>i&1 == 1 {
					n.turnTo(t, ticket, isAgain)
					again = append(again, ticket)
					ops += i + 2
				}
			}
			slices.Sort(again)
			var want []api.Message
			for _, ticket := range again {
				i := slices.Index(tickets, ticket)
				want = append(want, dataOf(ticket, at(6*i, 1+i)))
			}
			was := n.d.Copy()
			n.goesTo(t, "again", want...)
			if n.d.Ops() != was.Ops()+ops || slices.Max(n.states()) != isSent {
				t.Fatalf("%v: %d operations, want %d; states %v", again, n.d.Ops()-was.Ops(), ops, n.states())
			}
			n.goesTo(t, "all are Sent")
		}
	}
}

// What was written over a flight that is Again is written over once more, and then it waits for its answer as it did.
func TestP31_4AgainBehindAnotherWrite(t *testing.T) {
	n := nodeOf(t, 16, 4, 1)
	n.flies(t, "an own one", 5, at(2, 4))
	n.turnTo(t, 5, isAgain)
	n.tells(t, "it goes over it", dataOf(9, at(4, 4)), sample.Answer(isAck, 9))
	if n.has(at(2, 4), bytesFor(5, at(2, 4))) || !n.has(at(4, 4), bytesFor(9, at(4, 4))) {
		t.Errorf("it did not go over it")
	}
	n.goesTo(t, "it goes again", dataOf(5, at(2, 4)))
	if !n.has(at(2, 4), bytesFor(5, at(2, 4))) {
		t.Errorf("it is not stored")
	}
	n.tells(t, "now it keeps it waiting", dataOf(10, at(4, 4)))
	n.answers(t, "its answer", sample.Answer(isAck, 5), 5)
	n.goesTo(t, "now it may go", sample.Answer(isAck, 10))
}

// A flight that is Again, and overlaps what waits for another one, stays so until that has gone, and comes behind it; one that does not goes at once.
func TestP31_4AgainBesideWhatWaits(t *testing.T) {
	for _, own := range []api.Span{at(3, 1), at(3, 4), at(3, 8), at(5, 3), at(6, 1), at(6, 2), at(7, 1), at(7, 4)} {
		n := nodeOf(t, 24, 6, 1)
		n.flies(t, "it keeps one waiting", 5, at(0, 3))
		n.flies(t, "to be tried again", 4, own)
		n.flies(t, "to be tried again, elsewhere", 7, at(20, 2))
		n.turnTo(t, 4, isAgain)
		n.turnTo(t, 7, isAgain)
		n.tells(t, "it waits", dataOf(9, at(2, 5)))
		if sample.InBoth(own, at(2, 5)) {
			n.goesTo(t, "only the other one", dataOf(7, at(20, 2)))
			if !slices.Equal(n.states(), []int{isAgain, isSent, isSent}) {
				t.Fatalf("%v: states %v", own, n.states())
			}
			n.goesTo(t, "nothing more")
			n.answers(t, "the answer", sample.Answer(isAck, 5), 5)
			n.goesTo(t, "both", sample.Answer(isAck, 9), dataOf(4, own))
		} else {
			n.goesTo(t, "both own ones", dataOf(4, own), dataOf(7, at(20, 2)))
			n.answers(t, "the answer", sample.Answer(isAck, 5), 5)
			n.goesTo(t, "what waited", sample.Answer(isAck, 9))
		}
		if !n.has(own, bytesFor(4, own)) {
			t.Fatalf("%v: it is not what the sectors have", own)
		}
	}
}

// All that waits and goes is told ahead of all that is tried again.
func TestP31_4TheOrderOfWhatIsTold(t *testing.T) {
	n := nodeOf(t, 32, 8, 1)
	n.flies(t, "own", 50, at(0, 4))
	n.flies(t, "own", 40, at(8, 4))
	n.flies(t, "own", 60, at(16, 4))
	n.tells(t, "later", dataOf(99, at(2, 8)))
	n.tells(t, "later", dataOf(98, at(17, 1)))
	n.tells(t, "later", dataOf(1, at(19, 2)))
	for _, ticket := range []int{60, 50, 40} {
		n.turnTo(t, ticket, isAgain)
	}
	n.goesTo(t, "all", sample.Answer(isAck, 99), sample.Answer(isAck, 98), sample.Answer(isAck, 1), dataOf(40, at(8, 4)), dataOf(50, at(0, 4)), dataOf(60, at(16, 4)))
}

// Of flights of each state: those that are Again are stored, all are Held, and what waits is gone; none is told.
func TestP31_4Hold(t *testing.T) {
	for who := range 2 {
		n := busyNode(t, who)
		// The arbiter lets nothing over an own one; at the other node it goes over one that is Again.
		n.takes(t, "busy", dataOf(12, at(9, 2)))
		was := n.d.Copy()
		if n.has(at(8, 2), bytesFor(6, at(8, 2))) != (who == 0) {
			t.Fatalf("node %d: the sectors of the flight that is Again", who)
		}
		if err := n.holds(t, "busy"); err != api.OK {
			t.Fatal(err)
		}
		if !slices.Equal(n.states(), []int{isHeld, isHeld, isHeld}) || len(n.m.Later()) != 0 || n.d.Ops() != was.Ops()+3 || !n.has(at(8, 2), bytesFor(6, at(8, 2))) {
			t.Errorf("node %d: states %v, Later %v, %d operations", who, n.states(), n.m.Later(), n.d.Ops()-was.Ops())
		}
		was = n.d.Copy()
		n.holds(t, "twice")
		n.goesTo(t, "all are Held")
		leaves(t, "twice", n.d, was)
	}
}

// Where none is Again nothing is stored, even if the disk broke; where nothing flies there is nothing to do.
func TestP31_4HoldOfNothing(t *testing.T) {
	for who := range 2 {
		n := nodeOf(t, 24, 8, who)
		was := n.d.Copy()
		if err := n.holds(t, "a new one"); err != api.OK {
			t.Errorf("Hold: %v", err)
		}
		leaves(t, "a new one", n.d, was)
		n.flies(t, "a flight", 5, at(0, 4))
		n.takes(t, "it waits, if this is not the arbiter", dataOf(9, at(2, 4)))
		n.fuse(0)
		n.d.Flush()
		n.plain.d.Flush()
		was = n.d.Copy()
		if err := n.holds(t, "a broken disk"); err != api.OK || !slices.Equal(n.states(), []int{isHeld}) || len(n.m.Later()) != 0 {
			t.Errorf("node %d: Hold: %v, states %v, Later %v", who, err, n.states(), n.m.Later())
		}
		leaves(t, "a broken disk", n.d, was)
	}
}

// Those that are Again are stored by rising tickets: each choice of them, with as many operations as they need.
func TestP31_4HoldOfSeveral(t *testing.T) {
	tickets := []int{3, 40, 5, 17}
	for choice := range 1 << len(tickets) {
		for who := range 2 {
			n := nodeOf(t, 40, 8, who)
			ops := 0
			for i, ticket := range tickets {
				n.flies(t, "a flight", ticket, at(6*i, 1+i))
				if choice>>i&1 == 1 {
					n.turnTo(t, ticket, isAgain)
					ops += i + 2
				}
			}
			was := n.d.Copy()
			if err := n.holds(t, "several"); err != api.OK || n.d.Ops() != was.Ops()+ops {
				t.Errorf("Hold: %v, %d operations, want %d", err, n.d.Ops()-was.Ops(), ops)
			}
			if done := n.releases(t, "several"); !slices.Equal(done, []int{3, 5, 17, 40}) || len(n.m.Flights()) != 0 {
				t.Errorf("Release: %v", done)
			}
		}
	}
}

// What is Held keeps what comes waiting, and makes it over, or again, as what is Sent does.
func TestP31_4WhatIsHeld(t *testing.T) {
	for who := range 2 {
		n := nodeOf(t, 24, 8, who)
		n.flies(t, "a flight", 5, at(4, 4))
		n.holds(t, "it is Held")
		n.refuses(t, "it overlaps what is Held", 6, at(7, 2))
		if who == 0 {
			n.tells(t, "within it", dataOf(9, at(5, 2)), sample.Answer(isOver, 9))
			n.tells(t, "over its end", dataOf(9, at(7, 2)), sample.Answer(isRetry, 9))
		} else {
			n.tells(t, "within it", dataOf(9, at(5, 2)))
			n.goesTo(t, "it waits")
		}
		if done := n.releases(t, "it ends"); !slices.Equal(done, []int{5}) {
			t.Errorf("Release: %v", done)
		}
		if who == 1 {
			n.goesTo(t, "it goes", sample.Answer(isAck, 9))
		}
		n.flies(t, "the ticket is free again", 5, at(7, 2))
	}
}

// Release ends what is Held alone, tells it by rising tickets, and asks nothing of the disk, nor of what waits.
func TestP31_4Release(t *testing.T) {
	for who := range 2 {
		n := busyNode(t, who)
		n.fuse(0)
		n.d.Flush()
		n.plain.d.Flush()
		was, hot, later := n.d.Copy(), n.m.Hot(), n.m.Later()
		if done := n.releases(t, "one of three"); !slices.Equal(done, []int{7}) || !slices.Equal(n.states(), []int{isSent, isAgain}) || !slices.Equal(n.m.Later(), later) {
			t.Errorf("node %d: Release: %v, states %v, Later %v", who, done, n.states(), n.m.Later())
		}
		if done := n.releases(t, "none is Held"); done != nil {
			t.Errorf("node %d: Release, twice: %v", who, done)
		}
		n.kept(t, "Release", was, hot, flying(n.m.Flights()))
		if done := nodeOf(t, 24, 3, who).releases(t, "a new one"); done != nil {
			t.Errorf("node %d: Release of a new one: %v", who, done)
		}
	}
}

// Those that are Held, some of which were answered or turned since, and some that began behind the Hold.
func TestP31_4ReleaseOfSome(t *testing.T) {
	for who := range 2 {
		n := nodeOf(t, 64, 16, who)
		for i, ticket := range []int{9, 2, 30, 4, 25} {
			n.flies(t, "ahead of the Hold", ticket, at(4*i, 3))
		}
		n.turnTo(t, 25, isAgain)
		n.holds(t, "all five")
		n.answers(t, "one is answered", sample.Answer(isAck, 4), 4)
		n.tells(t, "one is turned", sample.Answer(isRetry, 9))
		n.flies(t, "behind the Hold", 3, at(32, 3))
		if done := n.releases(t, "the rest"); !slices.Equal(done, []int{2, 25, 30}) || !slices.Equal(n.states(), []int{isSent, isAgain}) {
			t.Errorf("node %d: Release: %v, states %v", who, done, n.states())
		}
		n.goesTo(t, "one is tried again", dataOf(9, at(0, 3)))
	}
}

// fallingNode: the node that is not the arbiter, with two writes that may go, of two sectors and of one, one that may not, two flights that are Again, of one sector and of three, one that is kept so by what waits, and one that is Sent.
func fallingNode(t *testing.T) *node {
	t.Helper()
	n := nodeOf(t, 40, 16, 1)
	n.flies(t, "falls", 3, at(0, 4))
	n.flies(t, "falls", 8, at(8, 1))
	n.flies(t, "falls", 5, at(12, 3))
	n.flies(t, "falls", 4, at(20, 4))
	n.flies(t, "falls", 7, at(24, 4))
	n.tells(t, "falls", dataOf(90, at(3, 2)))
	n.tells(t, "falls", dataOf(91, at(20, 6)))
	n.tells(t, "falls", dataOf(80, at(8, 1)))
	n.answers(t, "falls", sample.Answer(isAck, 3), 3)
	for _, ticket := range []int{8, 5, 4} {
		n.turnTo(t, ticket, isAgain)
	}
	return n
}

// Each operation of a Go is the one at which the disk breaks: the error, nothing is told; what went ahead of it is gone and stored, or Sent and stored, and the one at which it broke waits no longer, or is Again still.
func TestP31_4TheFuseEndsWithinAGo(t *testing.T) {
	// Two writes that went, of three and two operations, and two that are tried again, of four and two.
	for ops := range 13 {
		for _, spares := range []uint64{0, 1, 2, 5, all} {
			what := fmt.Sprintf("with %d operations, and a crash that spares %#x", ops, spares)
			n := fallingNode(t)
			n.fuse(ops)
			told, err := n.goes(t, what)
			if (err == api.OK) != (ops >= 11) || err != api.OK && (err != api.ErrDown || told != nil || !n.d.Broken()) {
				t.Fatalf("%s: %v, %v, Broken %v", what, sample.ShownAll(told), err, n.d.Broken())
			}
			want, later := []int{isAgain, isAgain, isSent, isAgain}, []api.Span{at(20, 6)}
			if ops < 3 {
				later = append(later, at(8, 1))
			}
			if ops >= 9 {
				want[1] = isSent
			}
			if ops >= 11 {
				want[3] = isSent
				if !sample.AlikeAll(told, []api.Message{sample.Answer(isAck, 90), sample.Answer(isAck, 80), dataOf(5, at(12, 3)), dataOf(8, at(8, 1))}) {
					t.Fatalf("%s: %v", what, sample.ShownAll(told))
				}
			}
			if !slices.Equal(n.states(), want) || !slices.Equal(n.m.Later(), later) {
				t.Fatalf("%s: states %v, want %v; Later %v, want %v", what, n.states(), want, n.m.Later(), later)
			}
			n.crash(spares)
			if ops >= 3 && !n.has(at(3, 2), bytesFor(90, at(3, 2))) || ops >= 5 && ops < 9 && !n.has(at(8, 1), bytesFor(80, at(8, 1))) || ops >= 9 && !n.has(at(12, 3), bytesFor(5, at(12, 3))) {
				t.Fatalf("%s: what was done is not durable", what)
			}
			n.goes(t, what+", and once more")
		}
	}
}

// Each operation of a Hold is the one at which the disk breaks: the error; what waits is gone, and no flight is Held.
func TestP31_4TheFuseEndsWithinAHold(t *testing.T) {
	// Three that are Again, of five, four and two operations.
	for ops := range 13 {
		for _, spares := range []uint64{0, 1, 2, 5, all} {
			what := fmt.Sprintf("with %d operations, and a crash that spares %#x", ops, spares)
			n := fallingNode(t)
			was := n.states()
			n.fuse(ops)
			err := n.holds(t, what)
			if (err == api.OK) != (ops >= 11) || err != api.OK && (err != api.ErrDown || !n.d.Broken()) || len(n.m.Later()) != 0 {
				t.Fatalf("%s: %v, Broken %v, Later %v", what, err, n.d.Broken(), n.m.Later())
			}
			want := was
			if err == api.OK {
				want = []int{isHeld, isHeld, isHeld, isHeld}
			}
			if !slices.Equal(n.states(), want) {
				t.Fatalf("%s: states %v, want %v", what, n.states(), want)
			}
			n.crash(spares)
			if ops >= 5 && !n.has(at(20, 4), bytesFor(4, at(20, 4))) || ops >= 9 && !n.has(at(12, 3), bytesFor(5, at(12, 3))) {
				t.Fatalf("%s: what was done is not durable", what)
			}
			if err := n.holds(t, what+", and once more"); err != api.OK || !slices.Equal(n.states(), []int{isHeld, isHeld, isHeld, isHeld}) {
				t.Fatalf("%s, and once more: %v, states %v", what, err, n.states())
			}
		}
	}
}

// A Go, and a Hold, make all durable that is cached, if they store anything.
func TestP31_4WhatIsStoredIsFlushed(t *testing.T) {
	for _, hold := range []bool{false, true} {
		n := fallingNode(t)
		for _, d := range []*disk.Disk{n.d, n.plain.d} {
			d.Write(40, api.Sector{7})
		}
		if hold {
			n.holds(t, "cached")
		} else {
			n.goes(t, "cached")
		}
		if n.d.Durable(40) != (api.Sector{7}) || len(n.d.Cached()) != 0 {
			t.Errorf("Cached %v", n.d.Cached())
		}
	}
}
