package mirror_test

import (
	"bytes"
	"fmt"
	"math"
	"slices"
	"testing"

	"twain/api"
	"twain/disk"
	"twain/flight"
	"twain/mirror"
	"twain/sample"
)

// The bytes handed to Write are not changed, with the room behind their end, and are not kept, be the Write done, refused, wrong or cut off: a flight that is tried again has what they were.
func TestR3BytesHandedToWrite(t *testing.T) {
	for who := range 2 {
		for ops := -1; ops < 7; ops++ {
			for _, s := range []api.Span{at(2, 2), at(8, 2), at(20, 2), at(23, 2)} {
				for _, size := range []int{0, 31, 32, 33} {
					n := nodeOf(t, 24, 3, who)
					n.flies(t, "ahead", 4, at(9, 3))
					n.fuse(ops)
					b, memory := sample.WithRoom(sample.Bytes(size), 99, 40)
					was := bytes.Clone(memory)
					ok, _, _ := n.writes(t, "with room", 5, s, b)
					if !bytes.Equal(memory, was) {
						t.Fatalf("Write(%v, %d bytes) changed what was handed in", s, size)
					}
					sample.Spoil(b)
					n.stands(t, "what was handed in is changed")
					if ok {
						n.turnTo(t, 5, isAgain)
						n.fuse(-1)
						n.goesTo(t, "what was handed in is changed", sample.Data(5, s.Off, was[:size]))
					}
				}
			}
		}
	}
}

// So it is with the message handed to Take, whatever becomes of it; what waits has what it had.
func TestR3MessagesHandedToTake(t *testing.T) {
	for who := range 2 {
		for ops := -1; ops < 5; ops++ {
			for _, kind := range append(sample.MessageKinds(), 0, 9) {
				for _, off := range []int{0, 3, 9, 23} {
					for _, size := range []int{0, 31, 32, 64} {
						n := busyNode(t, who)
						n.fuse(ops)
						b, memory := sample.WithRoom(sample.Bytes(size), 99, 40)
						was := bytes.Clone(memory)
						x := api.Message{Kind: kind, Id: 12, Off: off, Data: b}
						n.takes(t, "with room", x)
						if !bytes.Equal(memory, was) || x.Kind != kind || x.Id != 12 || x.Off != off || len(x.Data) != size {
							t.Fatalf("Take changed what was handed in: %s", sample.Shown(x))
						}
						sample.Spoil(b)
						n.fuse(-1)
						if n.d.Broken() {
							n.crash(0)
						}
						n.answers(t, "the flights end", sample.Answer(isAck, 5), 5)
						n.answers(t, "the flights end", sample.Answer(isAck, 7), 7)
						n.goes(t, "what was handed in is changed")
					}
				}
			}
		}
	}
}

// spoils: the messages that were told, with their Data and all room, become others; those behind each stay as they were.
func spoils(t *testing.T, told []api.Message) {
	t.Helper()
	var was []string
	for _, x := range told {
		was = append(was, fmt.Sprint(x))
	}
	for i, x := range told {
		if fmt.Sprint(x) != was[i] {
			t.Fatalf("message %d is %v behind a change of one ahead of it, and was %s", i, x, was[i])
		}
		_ = append(x.Data, 1, 2, 3)
		sample.Spoil(x.Data)
	}
	told = told[:cap(told)]
	for i := range told {
		told[i] = api.Message{Kind: 77, Id: 77}
	}
}

// What Write tells is the caller's: whoever changes it changes neither the disk, nor the flight, nor what was handed in.
func TestR3WhatWriteTells(t *testing.T) {
	for who := range 2 {
		n := nodeOf(t, 24, 3, who)
		b := sample.Bytes(48)
		was := bytes.Clone(b)
		_, told, _ := n.writes(t, "a write", 5, at(2, 3), b)
		spoils(t, told)
		if !bytes.Equal(b, was) {
			t.Errorf("what was told shares memory with what was handed in")
		}
		n.stands(t, "what was told is changed")
		n.turnTo(t, 5, isAgain)
		told, _ = n.goes(t, "it goes again")
		if !sample.AlikeAll(told, []api.Message{sample.Data(5, 2, was)}) {
			t.Errorf("it told %v", sample.ShownAll(told))
		}
	}
}

// So is what Take tells, and the tickets that it answers.
func TestR3WhatTakeTells(t *testing.T) {
	for who := range 2 {
		n := busyNode(t, who)
		for i, s := range []api.Span{at(20, 2), at(2, 1), at(5, 3), at(8, 2)} {
			x := dataOf(20+i, s)
			_, told, _ := n.takes(t, "a Data", x)
			spoils(t, told)
			if !sample.AlikeMessages(x, dataOf(20+i, s)) {
				t.Errorf("what was told shares memory with what was handed in: %s", sample.Shown(x))
			}
			n.stands(t, "what was told is changed")
		}
		first, _, _ := n.takes(t, "an Ack", sample.Answer(isAck, 5))
		other, _, _ := n.takes(t, "an Over", sample.Answer(isOver, 6))
		_ = append(first, 9)
		sample.Spoil(first)
		if !slices.Equal(other, []int{6}) {
			t.Errorf("two answers share memory: %v", other)
		}
		n.stands(t, "what was answered is changed")
	}
}

// So is what Go tells, of what waited and of what goes again, and what Release answers.
func TestR3WhatGoAndReleaseTell(t *testing.T) {
	n := fallingNode(t)
	kept, _ := n.goes(t, "all that may go")
	was := fmt.Sprint(kept)
	for range 2 {
		n.turnTo(t, 5, isAgain)
		n.turnTo(t, 8, isAgain)
		told, _ := n.goes(t, "once more")
		if len(told) != 2 {
			t.Fatalf("Go: %v", sample.ShownAll(told))
		}
		spoils(t, told)
		n.stands(t, "what was told is changed")
	}
	if fmt.Sprint(kept) != was {
		t.Errorf("what was told ahead became %v", sample.ShownAll(kept))
	}
	spoils(t, kept)
	n.holds(t, "what was told is changed")
	first := n.releases(t, "all four")
	_ = append(first, 9)
	sample.Spoil(first)
	n.flies(t, "one more", 5, at(12, 3))
	n.holds(t, "one more")
	if done := n.releases(t, "one more"); !slices.Equal(done, []int{5}) {
		t.Errorf("Release: %v", done)
	}
}

// So is what Flights and Later tell.
func TestR3WhatFlightsAndLaterTell(t *testing.T) {
	n := busyNode(t, 1)
	kept, waiting := n.m.Flights(), n.m.Later()
	was, wasWaiting := fmt.Sprint(kept), fmt.Sprint(waiting)
	fly, later := n.m.Flights(), n.m.Later()
	for i, w := range fly {
		_ = append(w.Data, 1, 2, 3)
		sample.Spoil(w.Data)
		fly[i] = flight.Write{Ticket: -1}
	}
	_ = append(later, at(1, 1))
	for i := range later {
		later[i] = at(-7, 7)
	}
	n.stands(t, "what was told is changed", sample.SmallSpans(20)...)
	n.answers(t, "behind it", sample.Answer(isAck, 5), 5)
	n.answers(t, "behind it", sample.Answer(isAck, 7), 7)
	n.goes(t, "behind it")
	if fmt.Sprint(kept) != was || fmt.Sprint(waiting) != wasWaiting {
		t.Errorf("what was told became %v, %v", flying(kept), waiting)
	}
}

// Two Mirrors on disks of their own: what is done to one is nothing to the other.
func TestR4MirrorsGoTheirOwnWays(t *testing.T) {
	nodes := []*node{nodeOf(t, 24, 3, 0), nodeOf(t, 24, 3, 1), nodeOf(t, 24, 3, 1), nodeOf(t, 24, 3, 0)}
	for i, w := range sample.Words()[130:900] {
		nodes[i%4].step(t, fmt.Sprintf("step %d, of the one", i), w, 24)
		for j, n := range nodes {
			n.stands(t, fmt.Sprintf("step %d, of number %d", i, j))
		}
	}
}

// Two Mirrors on one disk: each has its own flights, what waits and a hot set; what one stored the other finds there, the log too.
func TestR4TwoOnOneDisk(t *testing.T) {
	d := sample.Knowing(32, 0, 0)
	one, _ := mirror.New(d, 3, 0, 0)
	other, _ := mirror.New(d, 3, 1, 4)
	b := sample.Bytes(32)
	ok, _, err := one.Write(5, at(2, 2), b)
	again, _, errAgain := other.Write(5, at(2, 2), b)
	if !ok || err != api.OK || !again || errAgain != api.OK {
		t.Errorf("Write: %v, %v, and %v, %v", ok, err, again, errAgain)
	}
	if one.Hot() != 1 || other.Hot() != 5 || sample.RingWord(d, 2, 4) != 5 {
		t.Errorf("Hot %#x, %#x, the log %#x", one.Hot(), other.Hot(), sample.RingWord(d, 2, 4))
	}
	if done, _, _ := one.Take(sample.Answer(isAck, 5)); len(done) != 1 || one.Busy(at(2, 2)) || !other.Busy(at(2, 2)) || len(one.Flights()) != 0 || len(other.Flights()) != 1 {
		t.Errorf("an Ack at the one: %v, Flights %v, %v", done, flying(one.Flights()), flying(other.Flights()))
	}
	if _, told, _ := other.Take(dataOf(9, at(3, 2))); len(told) != 0 || len(other.Later()) != 1 || len(one.Later()) != 0 {
		t.Errorf("a Data at the other: %v, Later %v, %v", sample.ShownAll(told), one.Later(), other.Later())
	}
	one.Forget()
	if other.Hot() != 5 {
		t.Errorf("Forget at the one: Hot %#x at the other", other.Hot())
	}
}

// The same calls, on disks that are alike, tell the same, and leave them alike.
func TestR4TheSameAgain(t *testing.T) {
	for who := range 2 {
		one, other := nodeOf(t, 24, 4, who), nodeOf(t, 24, 4, who)
		for i, w := range sample.Words()[130:900] {
			what := fmt.Sprintf("step %d", i)
			if got, again := one.step(t, what, w, 24), other.step(t, what, w, 24); got != again {
				t.Fatalf("%s: %s, and again %s", what, got, again)
			}
			if fmt.Sprint(one.m.Flights(), one.m.Later(), one.m.Hot()) != fmt.Sprint(other.m.Flights(), other.m.Later(), other.m.Hot()) {
				t.Fatalf("%s: the Mirrors are not alike", what)
			}
			leaves(t, what, one.d, other.d)
		}
	}
}

// noMirror: all calls of a Mirror that no call made.
func noMirror(t *testing.T, m *mirror.Mirror) {
	t.Helper()
	for _, ticket := range []int{math.MinInt, -1, 0, 1, 5, math.MaxInt} {
		for _, s := range append(sample.SmallSpans(3), at(-1, 1), at(math.MaxInt, math.MaxInt)) {
			if ok, told, err := m.Write(ticket, s, make([]byte, 16)); ok || told != nil || err != api.ErrMade {
				t.Errorf("Write(%d, %v): %v, %v, %v", ticket, s, ok, told, err)
			}
			if m.Busy(s) {
				t.Errorf("Busy(%v): true", s)
			}
		}
	}
	for i, x := range append(sample.NoMessages(), sample.Messages()...) {
		if done, told, err := m.Take(x); i%5 == 0 && (done != nil || told != nil || err != api.ErrMade) {
			t.Errorf("Take(%s): %v, %v, %v", sample.Shown(x), done, told, err)
		}
	}
	if told, err := m.Go(); told != nil || err != api.ErrMade {
		t.Errorf("Go: %v, %v", told, err)
	}
	if err := m.Hold(); err != api.ErrMade {
		t.Errorf("Hold: %v", err)
	}
	m.Forget()
	if m.Release() != nil || m.Hot() != 0 || m.Flights() != nil || m.Later() != nil {
		t.Errorf("Release %v, Hot %#x, Flights %v, Later %v", m.Release(), m.Hot(), m.Flights(), m.Later())
	}
}

func TestR5AMirrorThatNoCallMade(t *testing.T) {
	for _, m := range []*mirror.Mirror{nil, {}, new(mirror.Mirror)} {
		// Twice: no call makes it.
		for range 2 {
			noMirror(t, m)
		}
		if m != nil && *m != (mirror.Mirror{}) {
			t.Errorf("a Mirror that no call made became %v", *m)
		}
	}
}

// Each number, span and message that may not be, and some that may, on disks of all sorts; none panics.
func TestR1WhateverIsGiven(t *testing.T) {
	numbers := append(append(sample.NoExtents(), sample.Ends()...), 0, 1, 2, 3, 4, 16, 62, 63, 252, 253)
	spans := slices.Concat(sample.SmallSpans(4), sample.NoSpans(), sample.Spans())
	for _, size := range []int{0, 1, 6, 8, 9, 12, 24, 264} {
		for _, fuse := range []int{math.MinInt, -1, 0, 1, 5, math.MaxInt} {
			for who := range 2 {
				d := sample.Disk(size)
				for _, n := range numbers {
					makes(t, "whatever", d, n, n, uint64(n))
					makes(t, "whatever", d, 3, n, uint64(n))
					makes(t, "whatever", d, n, who, uint64(n))
				}
				n, err := makes(t, "whatever", d, 3, who, 7)
				if err != api.OK {
					continue
				}
				n.fuse(fuse)
				whatever(t, n, numbers, spans)
			}
		}
	}
}

// whatever: Writes and Takes of whatever there is, and the other calls between them.
func whatever(t *testing.T, n *node, numbers []int, spans []api.Span) {
	t.Helper()
	for i, s := range spans[:400] {
		number := numbers[i%len(numbers)]
		n.writes(t, "whatever", number, s, sample.Bytes(16*(i%3)))
		n.takes(t, "whatever", api.Message{Kind: i % 10, Id: number, Off: s.Off, Data: sample.Bytes(16 * (i % 9))})
		n.takes(t, "whatever", api.Message{Kind: 2, Id: 1 + i, Off: i % 30, Data: sample.Bytes(16 * (i % 9))})
		n.takes(t, "whatever", api.Message{Kind: number, Id: number, Off: number, Mask: uint64(number), Was: i%2 == 0})
		switch i % 40 {
		case 7, 17, 27:
			n.goes(t, "whatever")
		case 18:
			n.holds(t, "whatever")
		case 39:
			n.releases(t, "whatever")
			n.crash(uint64(i))
			n.fuse(i)
		}
	}
	for _, d := range []*disk.Disk{n.d, n.plain.d} {
		d.Crash(5)
	}
	n.stands(t, "whatever", spans...)
}
