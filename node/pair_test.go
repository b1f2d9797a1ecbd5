package node_test

import (
	"bytes"
	"fmt"
	"slices"
	"testing"

	"twain/api"
	"twain/data"
	"twain/disk"
	"twain/meta"
	"twain/sample"
	"twain/wire"
)

// asked is a request that a node took: when, and when it was completed; -1: it was not.
type asked struct {
	api.Request
	from, to int
}

// pair is two nodes, what is on its way to each, and all that was asked of them.
type pair struct {
	halves [2]*half
	rows   [2][][]byte
	asked  [2]map[int]*asked
	writes map[int]*asked // by the number that their bytes have
	now    int
	ended  int
}

// pairOn: two nodes of those settings, stopped, on those disks.
func pairOn(t *testing.T, c api.Config, disks ...*disk.Disk) *pair {
	t.Helper()
	p := &pair{writes: map[int]*asked{}}
	for who, d := range disks {
		p.halves[who] = halfWith(t, c, who, d)
		p.asked[who] = map[int]*asked{}
	}
	return p
}

// pairOf: two nodes of the settings of the document's examples, both Connected.
func pairOf(t *testing.T) *pair {
	t.Helper()
	p := pairOn(t, config(), sample.Knowing(24, 0, 0), sample.Knowing(24, 0, 0))
	p.start(t, "a pair", 0)
	p.start(t, "a pair", 1)
	p.round(t, "a pair")
	p.are(t, "a pair", api.Connected, api.Connected)
	return p
}

// are: are those the nodes' states?
func (p *pair) are(t *testing.T, what string, states ...int) {
	t.Helper()
	for who, state := range states {
		p.halves[who].is(t, fmt.Sprintf("%s: node %d", what, who), state)
	}
}

// stamp: bytes for so many sectors that tell of each which write it is of.
func stamp(n, sectors int) []byte {
	b := bytesFor(n, sectors)
	for i := range sectors {
		copy(b[16*i:], sample.HighestFirst(uint64(n)<<8|0xa5a5a500000000a5, 8))
	}
	return b
}

// writer: which write a sector's bytes are of; 0: none.
func writer(b []byte) int {
	if n := sample.Number(b[:8]); n&0xffffffff000000ff == 0xa5a5a500000000a5 {
		return int(n >> 8 & 0xffffff)
	}
	return 0
}

// behind: a call of that node is over: what it completed, and sent, and whether what both have durable, and is not alike, is known.
func (p *pair) behind(t *testing.T, what string, who int) {
	t.Helper()
	p.now++
	h := p.halves[who]
	done := h.polls(t, what)
	if len(done) > 0 {
		// P32.7: no request is completed while the node is not Connected.
		h.is(t, what, api.Connected)
	}
	for _, x := range done {
		p.end(t, what, who, x)
	}
	p.rows[1-who] = append(p.rows[1-who], h.mails(t, what)...)
	p.known(t, what)
}

// end: a request is completed: it is the first time, the table has it no longer, and what it tells is what its sectors may have.
func (p *pair) end(t *testing.T, what string, who int, x api.Done) {
	t.Helper()
	h, r := p.halves[who], p.asked[who][x.Ticket]
	if r == nil || r.to >= 0 || slices.Contains(h.n.Requests(), x.Ticket) || slices.Contains(h.n.Flying(), x.Ticket) {
		t.Fatalf("%s: node %d completed %d: %+v, and has %s", what, who, x.Ticket, r, h.tells())
	}
	r.to = p.now
	p.ended++
	if r.Kind != api.Read {
		if len(x.Data) != 0 {
			t.Fatalf("%s: node %d completed %d with %d bytes", what, who, x.Ticket, len(x.Data))
		}
		return
	}
	if len(x.Data) != 16*r.Span.Len {
		t.Fatalf("%s: node %d read %v: %d bytes", what, who, r.Span, len(x.Data))
	}
	for i := range r.Span.Len {
		p.mayHave(t, what, r.Span.Off+i, x.Data[16*i:16*i+16], r.from)
	}
}

// mayHave: may the sector have had these bytes at that time? Not, if the write that they are of had ended ahead of another one of the sector, which had ended, too.
func (p *pair) mayHave(t *testing.T, what string, sector int, b []byte, at int) {
	t.Helper()
	w := p.writes[writer(b)]
	if writer(b) != 0 && (w == nil || !sample.InSpan(w.Span, sector)) {
		t.Fatalf("%s: sector %d has %v, which no write of it has", what, sector, b)
	}
	for n, other := range p.writes {
		over := w == nil || w.to >= 0 && other.from > w.to
		if over && other.to >= 0 && other.to < at && sample.InSpan(other.Span, sector) {
			t.Fatalf("%s: sector %d has what write %d has, ahead of write %d", what, sector, writer(b), n)
		}
	}
}

// known: is each extent that is not alike on both disks in the log, or in the bitmap, of one of them?
func (p *pair) known(t *testing.T, what string) {
	t.Helper()
	one, two := p.halves[0].d, p.halves[1].d
	if one.Broken() || two.Broken() {
		return
	}
	mask := meta.Mine(meta.Look(one)) | meta.Mine(meta.Look(two))
	for sector := range data.Sectors(one) {
		if one.Durable(8+sector) != two.Durable(8+sector) && mask>>(sector/4)&1 == 0 {
			t.Fatalf("%s: sector %d is not alike, and neither knows it: %#x", what, sector, mask)
		}
	}
}

// submit: the request is asked of that node. Its ticket.
func (p *pair) submit(t *testing.T, what string, who int, r api.Request) (int, api.Errno) {
	t.Helper()
	p.now++
	n := len(p.writes) + 1
	if r.Kind == api.Write && r.Data == nil && r.Span.Len > 0 && r.Span.Len < 10 {
		r.Data = stamp(n, r.Span.Len)
	}
	was := p.halves[who].tells()
	ticket, err := p.halves[who].submits(t, what, r)
	if err != api.OK && p.halves[who].tells() != was {
		t.Fatalf("%s: a Submit that was refused: %s, it was %s", what, p.halves[who].tells(), was)
	}
	if err == api.OK {
		if p.asked[who][ticket] != nil {
			t.Fatalf("%s: node %d told ticket %d twice", what, who, ticket)
		}
		a := &asked{Request: r, from: p.now, to: -1}
		p.asked[who][ticket] = a
		if r.Kind == api.Write {
			p.writes[n] = a
		}
	}
	p.behind(t, what, who)
	return ticket, err
}

// write, read, flush: a request that must be taken. Its ticket.
func (p *pair) write(t *testing.T, what string, who, off, n int) int {
	t.Helper()
	return p.takes(t, what, who, sample.Write(off, n, nil))
}

func (p *pair) read(t *testing.T, what string, who, off, n int) int {
	t.Helper()
	return p.takes(t, what, who, sample.Read(off, n))
}

func (p *pair) flush(t *testing.T, what string, who int) int {
	t.Helper()
	return p.takes(t, what, who, sample.Flush())
}

func (p *pair) takes(t *testing.T, what string, who int, r api.Request) int {
	t.Helper()
	ticket, err := p.submit(t, what, who, r)
	if err != api.OK {
		t.Fatalf("%s: Submit: %v", what, err)
	}
	return ticket
}

// deliver: what is on its way to that node at that place comes.
func (p *pair) deliver(t *testing.T, what string, to, at int) {
	t.Helper()
	if at >= len(p.rows[to]) {
		return
	}
	b := p.rows[to][at]
	p.rows[to] = slices.Delete(p.rows[to], at, at+1)
	p.halves[to].takes(t, what, b)
	p.behind(t, what, to)
}

// tick: a tick at that node.
func (p *pair) tick(t *testing.T, what string, who int) {
	t.Helper()
	p.halves[who].ticks(t, what)
	p.behind(t, what, who)
}

// start: that node is started, if it can be.
func (p *pair) start(t *testing.T, what string, who int) {
	t.Helper()
	p.halves[who].starts(t, what)
	p.behind(t, what, who)
}

// crash: that node is stopped, and what its disk has cached is lost, but for what is spared.
func (p *pair) crash(t *testing.T, what string, who int, spares uint64) {
	t.Helper()
	p.halves[who].stops(t, what)
	p.halves[who].crash(spares)
	p.behind(t, what, who)
}

// all: all that is on its way comes, and what comes of it, until nothing is.
func (p *pair) all(t *testing.T, what string) {
	t.Helper()
	for i := 0; len(p.rows[0])+len(p.rows[1]) > 0; i++ {
		if i == 5000 {
			t.Fatalf("%s: it does not end", what)
		}
		to := 1
		if len(p.rows[1]) == 0 {
			to = 0
		}
		p.deliver(t, what, to, 0)
	}
}

// round: nothing breaks, who is stopped is started, both tick, and all comes.
func (p *pair) round(t *testing.T, what string) {
	t.Helper()
	for who, h := range p.halves {
		h.fuse(-1)
		if h.n.Status() == api.Down {
			p.start(t, what, who)
		}
	}
	p.tick(t, what, 0)
	p.tick(t, what, 1)
	p.all(t, what)
}

// quiet: do both serve, each the other's boot, with nothing that is asked or on its way?
func (p *pair) quiet() bool {
	for who, h := range p.halves {
		other := p.halves[1-who].n
		if h.n.Status() != api.Connected || h.n.Peer() != other.Boot() || len(h.n.Requests()) != 0 || h.n.Unacked() != 0 || h.n.Left() != 0 {
			return false
		}
	}
	return true
}

// rest: rounds without faults, as many as the whole's fourth promise has, bring all to rest: both data areas are alike, nothing is cached, and each sector has what it may have.
func (p *pair) rest(t *testing.T, what string) {
	t.Helper()
	q, mask := 0, uint64(0)
	for who, h := range p.halves {
		q += len(h.n.Requests())
		mask |= meta.Mine(meta.Look(h.d)) | h.n.Left()
		p.halves[who].fuse(-1)
	}
	rounds := q*q + len(sample.Members(mask)) + 6
	for i := 0; !p.quiet(); i++ {
		if i == rounds {
			t.Fatalf("%s: %d rounds are not enough: %s; %s", what, rounds, p.halves[0].tells(), p.halves[1].tells())
		}
		p.round(t, what)
	}
	p.alike(t, what)
}

// alike: at rest, are both data areas the same, with nothing cached, and what each sector may have?
func (p *pair) alike(t *testing.T, what string) {
	t.Helper()
	image := data.Image(p.halves[0].d)
	if !bytes.Equal(image, data.Image(p.halves[1].d)) {
		t.Fatalf("%s: at rest the data areas are not alike", what)
	}
	for who, h := range p.halves {
		if len(h.d.Cached()) != 0 || len(h.n.Flying()) != 0 {
			t.Fatalf("%s: node %d, at rest: Cached %v, Flying %v", what, who, h.d.Cached(), h.n.Flying())
		}
	}
	for sector := range len(image) / 16 {
		p.mayHave(t, what, sector, image[16*sector:16*sector+16], p.now+1)
	}
}

// ends: are those requests of that node completed, and the other ones not?
func (p *pair) ends(t *testing.T, what string, who int, want ...int) {
	t.Helper()
	var got []int
	for ticket, a := range p.asked[who] {
		if a.to >= 0 {
			got = append(got, ticket)
		}
	}
	slices.Sort(got)
	if !slices.Equal(got, want) {
		t.Fatalf("%s: node %d completed %v, want %v", what, who, got, want)
	}
}

// sectorsHave: are those the writes whose bytes the sectors from off on have, on both disks?
func (p *pair) sectorsHave(t *testing.T, what string, off int, writers ...int) {
	t.Helper()
	for who, h := range p.halves {
		for i, want := range writers {
			if got := writer(area(h.d, off+i, 1)); got != want {
				t.Fatalf("%s: node %d: sector %d has what write %d has, want %d", what, who, off+i, got, want)
			}
		}
	}
}

// Both are started, in either order, and tick: one round, and both serve.
func TestP32_4TheyMeet(t *testing.T) {
	for first := range 2 {
		p := pairOn(t, config(), sample.Disk(24), sample.Disk(24))
		p.start(t, "they meet", first)
		p.start(t, "they meet", 1-first)
		p.are(t, "they meet", api.Greeting, api.Greeting)
		p.tick(t, "they meet", 0)
		if len(p.rows[1]) != 1 || len(p.rows[0]) != 0 {
			t.Fatalf("on their way: %v", p.rows)
		}
		if x, err := wire.Parse(p.rows[1][0]); err != api.OK || x.Kind != wire.Hello || x.From != 1 {
			t.Fatalf("%+v is on its way", x)
		}
		p.tick(t, "they meet", 1)
		p.all(t, "they meet")
		p.are(t, "they meet", api.Connected, api.Connected)
		p.rest(t, "they meet")
	}
}

// One that is started alone says Hello, and serves nothing, however long it waits; the other one comes.
func TestP32_4OneAlone(t *testing.T) {
	for who := range 2 {
		p := pairOn(t, config(), sample.Disk(24), sample.Disk(24))
		p.start(t, "alone", who)
		ticket := p.read(t, "alone", who, 3, 2)
		for range 20 {
			p.tick(t, "alone", who)
			p.all(t, "alone")
		}
		p.ends(t, "alone", who)
		p.rest(t, "the other one comes")
		p.ends(t, "the other one comes", who, ticket)
	}
}

// What either one's log, or bitmap, has is copied from the one that gives, whatever the other one has: neither was Connected, so that is the arbiter.
func TestP32_4WhatIsUnlike(t *testing.T) {
	for _, c := range []struct{ hot, dirty, otherHot, otherDirty uint64 }{
		{1, 0, 0, 0}, {0, 2, 0, 0}, {0, 0, 4, 0}, {0, 0, 0, 8}, {1, 2, 4, 8}, {15, 15, 15, 15}, {0, 0, 6, 3}, {5, 1 << 63, 0, 0},
	} {
		one, two := sample.Knowing(24, c.hot, c.dirty), sample.Knowing(24, c.otherHot, c.otherDirty)
		for _, e := range sample.Members(sample.Union(c.hot|c.dirty, c.otherHot|c.otherDirty, 16)) {
			for i := range 4 {
				sample.Lay(two, 8+4*e+i, api.Sector{byte(e), byte(i), 99})
			}
		}
		want := area(one, 0, 16)
		p := pairOn(t, config(), one, two)
		p.round(t, "unlike")
		p.are(t, "unlike", api.Connected, api.Connected)
		p.alike(t, "unlike")
		if !bytes.Equal(area(two, 0, 16), want) {
			t.Fatalf("%+v: the other one gave", c)
		}
		if m := meta.Mine(meta.Look(one)) | meta.Mine(meta.Look(two)); m != 0 {
			t.Fatalf("%+v: %#x is left", c, m)
		}
	}
}

// The whole's examples 1 and 2: a write, and reads at the other node ahead of it and behind it.
func TestP32_5ExamplesOneAndTwo(t *testing.T) {
	p := pairOf(t)
	read := p.read(t, "ahead", 1, 3, 1)
	p.ends(t, "ahead", 1, read)
	ticket := p.write(t, "a write", 0, 3, 1)
	if len(p.rows[1]) != 1 {
		t.Fatalf("%d packets are on their way", len(p.rows[1]))
	}
	p.ends(t, "a write", 0)
	p.all(t, "it is delivered")
	p.ends(t, "it is delivered", 0, ticket)
	p.sectorsHave(t, "it is delivered", 3, 1)
	p.ends(t, "behind", 1, read, p.read(t, "behind", 1, 3, 1))
	p.rest(t, "behind")
}

// Examples 3 and 4: two that overlap one another, ahead of any delivery.
func TestP32_5ExamplesThreeAndFour(t *testing.T) {
	for first := range 2 {
		for _, off := range []int{1, 3} {
			p := pairOf(t)
			var tickets [2]int
			for _, who := range []int{first, 1 - first} {
				tickets[who] = p.write(t, "both", who, []int{0, off}[who], []int{4, 2}[who])
			}
			p.all(t, "both")
			p.ends(t, "both", 0, tickets[0])
			p.ends(t, "both", 1, tickets[1])
			arbiters, others := 1+first, 2-first
			want := []int{arbiters, arbiters, arbiters, arbiters, 0}
			if off == 3 {
				want = []int{arbiters, arbiters, arbiters, others, others}
			}
			p.sectorsHave(t, "both", 0, want...)
			p.rest(t, "both")
		}
	}
}

// Examples 5 and 6: a read of what an own write has on its way waits; three ticks without a packet, and a read waits until one comes.
func TestP32_5ExamplesFiveAndSix(t *testing.T) {
	p := pairOf(t)
	ticket := p.write(t, "a write", 1, 1, 1)
	read := p.read(t, "it waits", 1, 1, 1)
	p.ends(t, "it waits", 1)
	p.all(t, "it is answered")
	p.ends(t, "it is answered", 1, ticket, read)
	for range 3 {
		p.are(t, "not yet", api.Connected, api.Connected)
		p.tick(t, "it hears nothing", 0)
	}
	p.are(t, "it hears nothing", api.Frozen, api.Connected)
	ticket = p.read(t, "it waits", 0, 1, 1)
	p.ends(t, "it waits", 0)
	p.tick(t, "the other one ticks", 1)
	p.ends(t, "the other one ticks", 0)
	p.deliver(t, "a packet comes", 0, 0)
	p.ends(t, "a packet comes", 0, ticket)
	p.rest(t, "a packet came")
}

// Example 7: a node crashes with a write of the other one on its way, and is started: the other one gives, and the write ends.
func TestP32_4ExampleSeven(t *testing.T) {
	for who := range 2 {
		p := pairOf(t)
		ticket := p.write(t, "a write", who, 2, 3)
		p.crash(t, "it crashes", 1-who, 0)
		p.ends(t, "it crashes", who)
		p.round(t, "it is started")
		p.ends(t, "it is started", who, ticket)
		p.are(t, "it is started", api.Connected, api.Connected)
		p.sectorsHave(t, "it is started", 2, 1, 1, 1)
		if p.halves[who].n.Peer() != 2 || p.halves[1-who].n.Peer() != 1 {
			t.Fatalf("Peer %d, %d", p.halves[0].n.Peer(), p.halves[1].n.Peer())
		}
		p.rest(t, "it is started")
	}
}

// Example 8: both crash, and the arbiter gives; what the other one alone had written is lost, with its ticket.
func TestP32_4ExampleEight(t *testing.T) {
	for who := range 2 {
		p := pairOf(t)
		p.write(t, "a write", who, 2, 3)
		for _, crashed := range []int{who, 1 - who} {
			p.crash(t, "both crash", crashed, 0)
		}
		p.round(t, "both are started")
		p.ends(t, "both are started", who)
		p.are(t, "both are started", api.Connected, api.Connected)
		want := 1 - who
		p.sectorsHave(t, "both are started", 2, want, want, want)
		p.rest(t, "both are started")
	}
}

// Example 9: what is refused.
func TestP32_3ExampleNine(t *testing.T) {
	p := pairOn(t, config(), sample.Disk(24), sample.Disk(24))
	if ticket, err := p.submit(t, "stopped", 0, sample.Read(0, 1)); ticket != 0 || err != api.ErrDown {
		t.Fatalf("stopped: %d, %v", ticket, err)
	}
	p.start(t, "it runs", 0)
	if ticket, err := p.submit(t, "of no sector", 0, sample.Read(0, 0)); ticket != 0 || err != api.ErrInvalid {
		t.Fatalf("of no sector: %d, %v", ticket, err)
	}
	for range 4 {
		p.read(t, "four wait", 0, 0, 1)
	}
	if ticket, err := p.submit(t, "a fifth", 0, sample.Read(0, 1)); ticket != 0 || err != api.ErrBusy {
		t.Fatalf("a fifth: %d, %v", ticket, err)
	}
	p.rest(t, "four wait")
	if p.ended != 4 {
		t.Fatalf("%d ended", p.ended)
	}
}

// Example 10: the disk breaks at the first operation of a write: the node fell; behind a round the sector has what it had, or what was written.
func TestP32_6ExampleTen(t *testing.T) {
	for who := range 2 {
		for ops := range 7 {
			for _, spares := range []uint64{0, 1, 3} {
				p := pairOf(t)
				p.halves[who].fuse(ops)
				ticket := p.write(t, "it breaks", who, 3, 2)
				if ticket != 1<<24+1 || p.halves[who].d.Broken() != (p.halves[who].n.Status() == api.Down) {
					t.Fatalf("ticket %d, %s", ticket, p.halves[who].tells())
				}
				p.ends(t, "it breaks", who)
				p.crash(t, "it crashes", who, spares)
				p.round(t, "it is started")
				p.are(t, "it is started", api.Connected, api.Connected)
				p.rest(t, "it is started")
			}
		}
	}
}

// All that is sent is lost for some ticks, or comes twice, or the last one first: all ends, and both are alike.
func TestP32_4AllIsLostOrDoubledOrTurned(t *testing.T) {
	ways := sample.WaysThrough[[]byte]()
	ways["lost"] = func([][]byte) [][]byte { return nil }
	ways["twice"] = func(list [][]byte) [][]byte { return append(slices.Clone(list), list...) }
	ways["every other one"] = func(list [][]byte) [][]byte {
		var rest [][]byte
		for i := 0; i < len(list); i += 2 {
			rest = append(rest, list[i])
		}
		return rest
	}
	for name, way := range ways {
		p := pairOf(t)
		for i := range 30 {
			for who := range 2 {
				switch i % 5 {
				case 0, 3:
					p.submit(t, name, who, sample.Write((3*i+5*who)%12, 1+(i+who)%4, nil))
				case 1:
					p.submit(t, name, who, sample.Read((i+who)%12, 1+i%4))
				case 2:
					p.submit(t, name, who, sample.Flush())
				}
			}
			for who := range 2 {
				p.tick(t, name, who)
				list := way(p.rows[who])
				p.rows[who] = nil
				for _, b := range list {
					p.halves[who].takes(t, name, b)
					p.behind(t, name, who)
				}
			}
			if i%10 == 9 {
				p.rest(t, name)
			}
		}
		if p.ended < 20 {
			t.Errorf("%s: %d ended", name, p.ended)
		}
	}
}

// A node that is started again, and again, while nothing comes through: the other one takes what it hears of the latest boot, and nothing of those ahead of it.
func TestP32_4ManyBoots(t *testing.T) {
	for who := range 2 {
		p := pairOf(t)
		for range 5 {
			p.crash(t, "once more", who, 0)
			p.start(t, "once more", who)
			p.tick(t, "once more", who)
		}
		row := slices.Clone(p.rows[1-who])
		p.rows[1-who] = nil
		for _, b := range sample.Falling(row) {
			p.halves[1-who].takes(t, "the last one first", b)
			p.behind(t, "the last one first", 1-who)
			if p.halves[1-who].n.Peer() != 6 {
				t.Fatalf("Peer %d", p.halves[1-who].n.Peer())
			}
		}
		p.rest(t, "many boots")
	}
}

// Writes of both nodes while one of them freezes, and hears again: nothing that was asked is lost, and no session was begun anew.
func TestP32_2FrozenAndBack(t *testing.T) {
	for who := range 2 {
		p := pairOf(t)
		mine := p.write(t, "ahead", who, 2, 3)
		other := p.write(t, "ahead", 1-who, 3, 4)
		for range 4 {
			p.tick(t, "both hear nothing", who)
			p.tick(t, "both hear nothing", 1-who)
		}
		p.are(t, "both hear nothing", api.Frozen, api.Frozen)
		read := p.read(t, "Frozen", who, 9, 1)
		p.ends(t, "Frozen", who)
		p.rest(t, "both hear")
		p.ends(t, "both hear", who, mine, read)
		p.ends(t, "both hear", 1-who, other)
		if p.halves[0].n.Boot() != 1 || p.halves[1].n.Boot() != 1 {
			t.Fatalf("Boot %d, %d", p.halves[0].n.Boot(), p.halves[1].n.Boot())
		}
	}
}
