package mirror_test

import (
	"bytes"
	"fmt"
	"slices"
	"testing"

	"twain/api"
	"twain/data"
	"twain/disk"
	"twain/flight"
	"twain/mirror"
	"twain/sample"
)

// half is one node of a pair: its Mirror, its disk, all writes of its own that ever flew, and what is on its way to it, in order.
type half struct {
	m   *mirror.Mirror
	d   *disk.Disk
	own map[int]flight.Write
	row []api.Message
}

// pair is both nodes, whose messages are told to one another in order.
type pair struct {
	halves [2]*half
	last   int // the last ticket
	ended  int // how many flights ended
}

// pairOf: two nodes whose data areas have so many sectors, and are alike.
func pairOf(t *testing.T, sectors, most int) *pair {
	t.Helper()
	p := &pair{}
	for who := range 2 {
		d := sample.Filled(sectors + 8)
		m, err := mirror.New(d, most, who, 0)
		if err != api.OK {
			t.Fatalf("New: %v", err)
		}
		p.halves[who] = &half{m: m, d: d, own: map[int]flight.Write{}}
	}
	return p
}

// hasSector: is the sector durable at that node as the write has it?
func (h *half) hasSector(w flight.Write, sector int) bool {
	return h.d.Durable(8+sector) == api.Sector(w.Data[16*(sector-w.Span.Off):])
}

// has: are all sectors of the write durable at that node, but those that are one of the others'?
func (h *half) has(w flight.Write, others ...flight.Write) bool {
	for i := range w.Span.Len {
		sector := w.Span.Off + i
		isIn := func(o flight.Write) bool { return sample.InSpan(o.Span, sector) && h.hasSector(o, sector) }
		if !h.hasSector(w, sector) && !slices.ContainsFunc(others, isIn) {
			return false
		}
	}
	return true
}

// tells: the node told that. An Ack is told only by who has the write, but for what an own one, that is tried again, went over behind it; an Over only by who has a flight that holds it; a Data only of a flight that is Sent.
func (p *pair) tells(t *testing.T, what string, who int, told []api.Message) {
	t.Helper()
	h, other := p.halves[who], p.halves[1-who]
	fly := h.m.Flights()
	for _, x := range told {
		w := other.own[x.Id]
		switch x.Kind {
		case isAck:
			if !h.has(w, fly...) {
				t.Fatalf("%s: node %d told %s, and has it not", what, who, sample.Shown(x))
			}
		case isOver:
			holds := func(o flight.Write) bool {
				return o.Span.Off <= w.Span.Off && o.Span.Off+o.Span.Len >= w.Span.Off+w.Span.Len
			}
			if who != 0 || !slices.ContainsFunc(fly, holds) {
				t.Fatalf("%s: node %d told %s, and none of %v holds it", what, who, sample.Shown(x), flying(fly))
			}
		case isRetry:
			if who != 0 || !h.m.Busy(w.Span) {
				t.Fatalf("%s: node %d told %s, and none of %v overlaps it", what, who, sample.Shown(x), flying(fly))
			}
		case 2:
			at := slices.IndexFunc(fly, func(o flight.Write) bool { return o.Ticket == x.Id })
			if at < 0 || fly[at].State != isSent || fly[at].Span != spanOf(x) || !bytes.Equal(fly[at].Data, x.Data) {
				t.Fatalf("%s: node %d told %s, and of that flies %v", what, who, sample.Shown(x), flying(fly))
			}
		default:
			t.Fatalf("%s: node %d told %s", what, who, sample.Shown(x))
		}
	}
	other.row = append(other.row, told...)
}

// spanOf: the span of a Data.
func spanOf(x api.Message) api.Span { return at(x.Off, len(x.Data)/16) }

// stands: is what all flights of both have durable, unless they are Again, and do no two of a node overlap?
func (p *pair) stands(t *testing.T, what string) {
	t.Helper()
	for who, h := range p.halves {
		fly := h.m.Flights()
		for i, w := range fly {
			if w.State != isAgain && !h.has(w) {
				t.Fatalf("%s: node %d: %v is not durable", what, who, flying(fly[i:i+1]))
			}
			if !same(flight.Write{Ticket: w.Ticket, Span: w.Span, Data: w.Data}, h.own[w.Ticket]) {
				t.Fatalf("%s: node %d: %v is not what was written", what, who, flying(fly[i:i+1]))
			}
			for _, other := range fly[:i] {
				if sample.InBoth(w.Span, other.Span) {
					t.Fatalf("%s: node %d: two of %v overlap", what, who, flying(fly))
				}
			}
		}
	}
}

// write: the node's next ticket writes s, if it may.
func (p *pair) write(t *testing.T, what string, who int, s api.Span) api.Errno {
	t.Helper()
	p.last++
	h, b := p.halves[who], bytesFor(p.last, s)
	ok, told, err := h.m.Write(p.last, s, b)
	if ok {
		h.own[p.last] = flight.Write{Ticket: p.last, Span: s, Data: b}
	}
	if ok != (len(told) == 1) || ok && err != api.OK {
		t.Fatalf("%s: Write: %v, %v, %v", what, ok, sample.ShownAll(told), err)
	}
	p.tells(t, what, who, told)
	p.stands(t, what)
	return err
}

// tickets: those of the flights.
func (h *half) tickets() []int {
	var list []int
	for _, w := range h.m.Flights() {
		list = append(list, w.Ticket)
	}
	return list
}

// deliver: the next message that is on its way to that node comes, if there is one. A flight ends just if that is an Ack, or an Over, of it.
func (p *pair) deliver(t *testing.T, what string, to int) api.Errno {
	t.Helper()
	h := p.halves[to]
	if len(h.row) == 0 {
		return api.OK
	}
	x := h.row[0]
	h.row = h.row[1:]
	was := h.tickets()
	done, told, err := h.m.Take(x)
	want := was
	if at := slices.Index(was, x.Id); at >= 0 && (x.Kind == isAck || x.Kind == isOver) {
		want = slices.Delete(slices.Clone(was), at, at+1)
		if !slices.Equal(done, []int{x.Id}) {
			t.Fatalf("%s: node %d took %s: %v", what, to, sample.Shown(x), done)
		}
		p.ended++
	} else if len(done) != 0 {
		t.Fatalf("%s: node %d took %s: %v", what, to, sample.Shown(x), done)
	}
	if !slices.Equal(h.tickets(), want) {
		t.Fatalf("%s: node %d took %s: %v fly, and %v did", what, to, sample.Shown(x), h.tickets(), was)
	}
	p.tells(t, what, to, told)
	p.stands(t, what)
	return err
}

// goes: the node's Go; no flight ends.
func (p *pair) goes(t *testing.T, what string, who int) api.Errno {
	t.Helper()
	h := p.halves[who]
	was := h.tickets()
	told, err := h.m.Go()
	if !slices.Equal(h.tickets(), was) || err != api.OK && told != nil {
		t.Fatalf("%s: node %d's Go: %v, %v: %v fly, and %v did", what, who, sample.ShownAll(told), err, h.tickets(), was)
	}
	p.tells(t, what, who, told)
	p.stands(t, what)
	return err
}

// rest: all messages come, and both go on, until nothing is on its way: all flights have ended, nothing waits, and both data areas are alike, and durable.
func (p *pair) rest(t *testing.T, what string) {
	t.Helper()
	// In each round the first one of all that flies comes on by a message at least.
	for range 10 + 4*(len(p.halves[0].m.Flights())+len(p.halves[1].m.Flights())) {
		for who, h := range p.halves {
			if err := p.goes(t, what, who); err != api.OK {
				t.Fatalf("%s: %v", what, err)
			}
			for range len(h.row) {
				if err := p.deliver(t, what, who); err != api.OK {
					t.Fatalf("%s: %v", what, err)
				}
			}
		}
	}
	for who, h := range p.halves {
		if len(h.row) != 0 || len(h.m.Flights()) != 0 || len(h.m.Later()) != 0 || len(h.d.Cached()) != 0 {
			t.Fatalf("%s: node %d, at rest: %d messages, Flights %v, Later %v, Cached %v", what, who, len(h.row), flying(h.m.Flights()), h.m.Later(), h.d.Cached())
		}
	}
	if !bytes.Equal(data.Image(p.halves[0].d), data.Image(p.halves[1].d)) {
		t.Fatalf("%s: at rest the data areas are not alike", what)
	}
	if p.ended != len(p.halves[0].own)+len(p.halves[1].own) {
		t.Fatalf("%s: %d flights ended, of %d and %d", what, p.ended, len(p.halves[0].own), len(p.halves[1].own))
	}
}

// final: whose bytes the sector has, at both nodes.
func (p *pair) final(sector int) int {
	for who, h := range p.halves {
		for ticket, w := range h.own {
			if sample.InSpan(w.Span, sector) && h.hasSector(w, sector) {
				return ticket + 1000*who
			}
		}
	}
	return -1
}

// Two writes, one at each node, ahead of any delivery: what lies within the arbiter's is over; what overlaps it otherwise comes behind it; others stand beside it.
func TestP31_5TwoAtOnce(t *testing.T) {
	for _, first := range []int{0, 1} {
		for _, s := range near() {
			what := fmt.Sprintf("node %d first, %v", first, s)
			p := pairOf(t, 20, 8)
			for _, who := range []int{first, 1 - first} {
				p.write(t, what, who, []api.Span{at(8, 4), s}[who])
			}
			arbiters, others := 1+first, 1000+2-first
			p.rest(t, what)
			within := s.Off >= 8 && s.Off+s.Len <= 12
			for sector := range 20 {
				want := -1
				switch inOwn, inOther := sample.InSpan(at(8, 4), sector), sample.InSpan(s, sector); {
				case inOther && !within:
					want = others
				case inOwn:
					want = arbiters
				}
				if got := p.final(sector); got != want {
					t.Fatalf("%s: sector %d has the bytes of %d, want %d", what, sector, got, want)
				}
			}
		}
	}
}

// The whole's examples 3 and 4, message by message.
func TestP31_5TheExamples(t *testing.T) {
	p := pairOf(t, 16, 3)
	p.write(t, "node 0", 0, at(0, 4))
	p.write(t, "node 1", 1, at(1, 2))
	p.deliver(t, "to node 1", 1)
	if got := p.halves[1].m.Later(); !slices.Equal(got, []api.Span{at(0, 4)}) {
		t.Fatalf("Later %v", got)
	}
	p.deliver(t, "to node 0", 0)
	if got := p.halves[1].row; !sample.AlikeAll(got, []api.Message{sample.Answer(isOver, 2)}) {
		t.Fatalf("node 0 told %v", sample.ShownAll(got))
	}
	p.deliver(t, "to node 1", 1)
	if p.ended != 1 || len(p.halves[1].m.Flights()) != 0 {
		t.Fatalf("%d ended", p.ended)
	}
	p.goes(t, "node 1", 1)
	p.deliver(t, "to node 0", 0)
	if p.ended != 2 {
		t.Fatalf("%d ended", p.ended)
	}
	p.rest(t, "over")
	p.write(t, "node 0", 0, at(0, 4))
	p.write(t, "node 1", 1, at(3, 2))
	p.rest(t, "again")
	if p.final(2) != 3 || p.final(3) != 1004 || p.final(4) != 1004 {
		t.Errorf("sectors 2 to 4 have the bytes of %d, %d, %d", p.final(2), p.final(3), p.final(4))
	}
}

// Each row of steps, of writes that overlap one another and some that do not, of deliveries, and of Gos, and then all comes to rest.
func TestP31_5AllShortRuns(t *testing.T) {
	const what = "a short run"
	write := func(who, off, n int) func(*pair) {
		return func(p *pair) { p.write(t, what, who, at(off, n)) }
	}
	steps := []func(*pair){
		write(0, 0, 4),
		write(1, 1, 2),
		write(1, 3, 3),
		write(0, 5, 1),
		func(p *pair) { p.deliver(t, what, 0) },
		func(p *pair) { p.deliver(t, what, 1) },
		func(p *pair) { p.goes(t, what, 1) },
	}
	const length = 5
	rows := 1
	for range length {
		rows *= len(steps)
	}
	for row := range rows {
		p := pairOf(t, 8, 2)
		for range length {
			steps[row%len(steps)](p)
			row /= len(steps)
		}
		p.rest(t, what)
	}
}

// step: a write, a delivery or a Go that a word chooses.
func (p *pair) step(t *testing.T, what string, w uint64, sectors int) api.Errno {
	t.Helper()
	who := int(w >> 8 & 1)
	switch w % 16 {
	case 0, 1, 2, 3, 4:
		return p.write(t, what, who, at(int(w>>16%uint64(sectors)), 1+int(w>>32%8)))
	case 5, 6:
		return p.goes(t, what, who)
	default:
		return p.deliver(t, what, who)
	}
}

// meet: what is on its way is lost, and both meet anew: both Hold, all data of the one that gives come to the other, and what is Held ends. What the flights of the one that gives have is on both then.
func (p *pair) meet(t *testing.T, what string, giver int) {
	t.Helper()
	for who, h := range p.halves {
		h.row = nil
		if err := h.m.Hold(); err != api.OK || len(h.m.Later()) != 0 {
			t.Fatalf("%s: node %d: Hold: %v, Later %v", what, who, err, h.m.Later())
		}
		for _, w := range h.m.Flights() {
			if w.State != isHeld {
				t.Fatalf("%s: node %d: %v, behind a Hold", what, who, flying(h.m.Flights()))
			}
		}
	}
	p.stands(t, what)
	from, to := p.halves[giver], p.halves[1-giver]
	if err := data.Write(to.d, at(0, data.Sectors(to.d)), data.Image(from.d)); err != api.OK || to.d.Flush() != api.OK {
		t.Fatalf("%s: %v", what, err)
	}
	for who, h := range p.halves {
		was := h.tickets()
		if done := h.m.Release(); !slices.Equal(done, was) || len(h.m.Flights()) != 0 {
			t.Fatalf("%s: node %d: Release: %v, want %v", what, who, done, was)
		}
		p.ended += len(was)
		h.m.Forget()
	}
}

// Writes, deliveries and Gos without a pattern, at few sectors and at many, that come to rest now and then, and now and then meet anew.
func TestP31_5LongRuns(t *testing.T) {
	for _, c := range []struct{ sectors, most int }{{8, 2}, {16, 3}, {40, 5}, {128, 16}} {
		p := pairOf(t, c.sectors, c.most)
		for i, w := range sample.Words()[130:] {
			what := fmt.Sprintf("of %d sectors, step %d", c.sectors, i)
			if err := p.step(t, what, w, c.sectors); err != api.OK && err != api.ErrArg {
				t.Fatalf("%s: %v", what, err)
			}
			switch w >> 50 % 40 {
			case 0:
				p.rest(t, what)
			case 1:
				p.meet(t, what, int(w>>9&1))
			}
		}
		p.rest(t, "the end")
		if p.ended < 100 {
			t.Errorf("of %d sectors: %d flights ended", c.sectors, p.ended)
		}
	}
}

// A disk breaks at some operation, and crashes: what the flights have that are not Again is durable all the same, at both, and the call that failed ended none.
func TestP31_5ADiskThatBreaks(t *testing.T) {
	words := sample.Words()[130:]
	broke := 0
	for i := range 600 {
		const sectors = 16
		p := pairOf(t, sectors, 3)
		who := i % 2
		p.halves[who].d.Fuse(i / 2 % 50)
		for j := range 80 {
			w := words[(37*i+j)%len(words)]
			what := fmt.Sprintf("run %d, step %d", i, j)
			err := p.step(t, what, w, sectors)
			if p.halves[who].d.Broken() {
				if err != api.ErrDown {
					t.Fatalf("%s: %v", what, err)
				}
				broke++
				break
			}
		}
		p.halves[who].d.Crash(words[i])
		p.stands(t, fmt.Sprintf("run %d, behind a crash", i))
	}
	if broke < 300 {
		t.Errorf("%d broke", broke)
	}
}
