package resync_test

import (
	"bytes"
	"fmt"
	"testing"

	"twain/actlog"
	"twain/api"
	"twain/data"
	"twain/dirty"
	"twain/disk"
	"twain/meta"
	"twain/sample"
)

// pair is both nodes: their disks, what they were, and, from when they met, their Resyncs, and what is on its way to each.
type pair struct {
	sectors int
	disks   [2]*disk.Disk
	was     [2]bool
	nodes   [2]*node
	row     [2][]api.Message
}

// apart: two disks of that size, no sector of whose data areas is alike; some of the extents are hot at either node, and some out of sync, and each is so at one of them at least.
func apart(size int) *pair {
	p := &pair{sectors: size - 8}
	b := sample.Pattern(19, size)
	for i := range 2 {
		p.disks[i] = sample.Filled(size)
		p.disks[i].Write(0, api.Sector{})
		for at := 8; i == 1 && at < size; at++ {
			p.disks[i].Write(at, api.Sector(b[16*at:]))
		}
		p.disks[i].Flush()
	}
	sample.RingLay(p.disks[0], 2, 4, 6, 0x1111111111111111)
	sample.RingLay(p.disks[0], 6, 2, 7, 0x2222222222222222)
	sample.RingLay(p.disks[1], 2, 4, 8, 0xcccccccccccccccc)
	sample.RingLay(p.disks[1], 6, 2, 9, 0x9999999999999999)
	return p
}

// copy: the same disks, that go their own ways, ahead of a meeting.
func (p *pair) copy() *pair {
	return &pair{sectors: p.sectors, disks: [2]*disk.Disk{p.disks[0].Copy(), p.disks[1].Copy()}, was: p.was}
}

// mine: what each node knows that may be unlike.
func (p *pair) mine() [2]uint64 {
	return [2]uint64{meta.Mine(meta.Look(p.disks[0])), meta.Mine(meta.Look(p.disks[1]))}
}

// meet: both tell their Greets, and begin, that one first; the first error.
func (p *pair) meet(t *testing.T, what string, first int) api.Errno {
	t.Helper()
	mine := p.mine()
	greets := [2]api.Message{sample.Greet(mine[0], p.was[0]), sample.Greet(mine[1], p.was[1])}
	for _, who := range []int{first, 1 - first} {
		n, told, err := begins(t, what, p.disks[who], who, p.sectors, greets[who], greets[1-who])
		if err != api.OK {
			return err
		}
		p.nodes[who] = n
		p.row[1-who] = told
	}
	return api.OK
}

// deliver: the next message that is on its way to that node comes, if there is one.
func (p *pair) deliver(t *testing.T, what string, to int) api.Errno {
	t.Helper()
	if len(p.row[to]) == 0 {
		return api.OK
	}
	m := p.row[to][0]
	p.row[to] = p.row[to][1:]
	told, err := p.nodes[to].takes(t, what, m)
	p.row[1-to] = append(p.row[1-to], told...)
	return err
}

// run: all messages come, in order, those to that node ahead of those to the other, or one here and one there; the first error.
func (p *pair) run(t *testing.T, what string, first int, inTurn bool) api.Errno {
	t.Helper()
	for len(p.row[0])+len(p.row[1]) > 0 {
		to := first
		if len(p.row[to]) == 0 {
			to = 1 - first
		}
		if err := p.deliver(t, what, to); err != api.OK {
			return err
		}
		if inTurn {
			first = 1 - first
		}
	}
	return api.OK
}

// source: which node gives.
func (p *pair) source() int {
	if isSource(0, p.was[0], p.was[1]) {
		return 0
	}
	return 1
}

// union: the extents that are to become alike, when both meet now.
func (p *pair) union() uint64 {
	mine := p.mine()
	return sample.Union(mine[0], mine[1], p.sectors)
}

// ended: are both Over, both areas alike in all of the union, as the source had them ahead of it, all else as it was, and nothing out of sync, or hot, at either?
func (p *pair) ended(t *testing.T, what string, was *pair, union uint64) {
	t.Helper()
	for i, n := range p.nodes {
		if !n.r.Over() || n.r.Left() != 0 || n.r.Source() != (i == p.source()) {
			t.Fatalf("%s: node %d: Over %v, Left %#x, Source %v", what, i, n.r.Over(), n.r.Left(), n.r.Source())
		}
		if actlog.Get(p.disks[i]) != 0 || dirty.Get(p.disks[i]) != 0 || len(p.disks[i].Cached()) != 0 {
			t.Fatalf("%s: node %d: the log %#x, the bitmap %#x, Cached %v", what, i, actlog.Get(p.disks[i]), dirty.Get(p.disks[i]), p.disks[i].Cached())
		}
	}
	from, to := p.source(), 1-p.source()
	want := data.Image(was.disks[to])
	for _, e := range sample.Members(union) {
		copy(want[64*e:], sample.ExtentBytes(was.disks[from], e))
	}
	if !bytes.Equal(data.Image(p.disks[to]), want) || !bytes.Equal(data.Image(p.disks[from]), data.Image(was.disks[from])) {
		t.Fatalf("%s: the data areas are not as they must be", what)
	}
}

// unlikeIsKnown: is each extent of that set in which what is durable is not alike in Mine of either?
func (p *pair) unlikeIsKnown(t *testing.T, what string, set uint64) {
	t.Helper()
	mine := p.mine()
	for _, e := range sample.Members(set) {
		for at := 8 + 4*e; at < 12+4*e; at++ {
			if p.disks[0].Durable(at) != p.disks[1].Durable(at) && (mine[0]|mine[1])>>e&1 == 0 {
				t.Fatalf("%s: sector %d of extent %d is not alike, and Mine are %#x, %#x", what, at, e, mine[0], mine[1])
			}
		}
	}
}

// ways: what the nodes can have been, which begins first, which hears first, and whether they hear in turn.
type way struct {
	was          [2]bool
	begin, first int
	inTurn       bool
}

func ways() []way {
	var list []way
	for bits := range 32 {
		bit := func(n int) bool { return bits>>n&1 == 1 }
		list = append(list, way{[2]bool{bit(0), bit(1)}, bits >> 2 & 1, bits >> 3 & 1, bit(4)})
	}
	return list
}

// Nodes that meet come to an end, both, in whatever turns they begin and hear, with none, one, several and all extents.
func TestP30_3BothComeToAnEnd(t *testing.T) {
	for _, size := range sizes() {
		for _, w := range ways() {
			what := fmt.Sprintf("of %d sectors, %+v", size, w)
			p := apart(size)
			p.was = w.was
			was, union := p.copy(), p.union()
			if err := p.meet(t, what, w.begin); err != api.OK {
				t.Fatalf("%s: %v", what, err)
			}
			if err := p.run(t, what, w.first, w.inTurn); err != api.OK {
				t.Fatalf("%s: %v", what, err)
			}
			p.ended(t, what, was, union)
			p.unlikeIsKnown(t, what, union)
			// Once more there is nothing to copy, and nothing is done.
			like, ops := p.copy(), p.disks[0].Ops()+p.disks[1].Ops()
			if p.meet(t, what, w.begin) != api.OK || p.run(t, what, w.first, w.inTurn) != api.OK || p.disks[0].Ops()+p.disks[1].Ops() != ops {
				t.Fatalf("%s: once more, and it is not done, or costs operations", what)
			}
			p.ended(t, what, like, 0)
		}
	}
}

// What just one of them knows is copied, too, whoever gives; what none knows stays unlike.
func TestP30_3WhatIsKnown(t *testing.T) {
	for _, masks := range masks() {
		for at := range 4 {
			for _, w := range ways()[:4] {
				p := apart(24)
				p.was = w.was
				for i := range 2 {
					sample.RingLay(p.disks[i], 2, 4, 11, masks[i]*uint64(1-at>>i&1))
					sample.RingLay(p.disks[i], 6, 2, 11, masks[i]*uint64(at>>i&1))
				}
				was, union := p.copy(), sample.Union(masks[0], masks[1], 16)
				what := fmt.Sprintf("%#x, %+v", masks, w)
				if p.meet(t, what, 0) != api.OK || p.run(t, what, 0, true) != api.OK {
					t.Fatalf("%s: it is not done", what)
				}
				p.ended(t, what, was, union)
				for e := range 4 {
					if alike := bytes.Equal(sample.ExtentBytes(p.disks[0], e), sample.ExtentBytes(p.disks[1], e)); alike != (union>>e&1 == 1) {
						t.Errorf("%s: extent %d: alike %v", what, e, alike)
					}
				}
			}
		}
	}
}

// falls: the pair meets and goes on, until a disk breaks that has so many operations, and then crashes; the other one crashes, too, if bothCrash. What is unlike is known then, and a new meeting makes all alike.
func (p *pair) falls(t *testing.T, w way, who, ops int, spares uint64, bothCrash bool) (broke bool) {
	t.Helper()
	what := fmt.Sprintf("%+v, %d operations of node %d, and a crash that spares %#x", w, ops, who, spares)
	p.was = w.was
	union := p.union()
	p.disks[who].Fuse(ops)
	err := p.meet(t, what, w.begin)
	if err == api.OK {
		err = p.run(t, what, w.first, w.inTurn)
	}
	broke = p.disks[who].Broken()
	if broke != (err == api.ErrDown) || !broke && err != api.OK {
		t.Fatalf("%s: %v, Broken %v", what, err, broke)
	}
	p.disks[who].Crash(spares)
	if bothCrash {
		p.disks[1-who].Crash(spares)
	}
	p.unlikeIsKnown(t, what, union)
	p.again(t, what, w, union)
	return broke
}

// again: they meet once more, as they would behind a crash, and come to an end: all of the union is alike.
func (p *pair) again(t *testing.T, what string, w way, union uint64) {
	t.Helper()
	was, left := p.copy(), p.union()
	if p.meet(t, what, w.begin) != api.OK || p.run(t, what, w.first, w.inTurn) != api.OK {
		t.Fatalf("%s: once more, and it is not done", what)
	}
	p.ended(t, what, was, left)
	for _, e := range sample.Members(union) {
		if !bytes.Equal(sample.ExtentBytes(p.disks[0], e), sample.ExtentBytes(p.disks[1], e)) {
			t.Fatalf("%s: once more, and extent %d is not alike", what, e)
		}
	}
}

// thirds: each third one of the ways, from that one on.
func thirds(list []way, from int) []way {
	var few []way
	for i := from; i < len(list); i += 3 {
		few = append(few, list[i])
	}
	return few
}

// Either disk breaks at each operation of all that it takes, and the crash spares each choice of what is cached.
func TestP30_3ACrashAtEachOperation(t *testing.T) {
	for i, size := range []int{12, 16, 21} {
		start := apart(size)
		// Of the ways each third one at each size: all of them are gone at one of the sizes.
		for _, w := range thirds(ways(), i) {
			for who := range 2 {
				ops, broke := 0, true
				for ; broke; ops++ {
					for spares := range uint64(16) {
						broke = start.copy().falls(t, w, who, ops, spares, false)
						start.copy().falls(t, w, who, ops, all-15+spares, true)
						if !broke {
							break
						}
					}
				}
				// The last run has as many operations as it all takes.
				extents, least := len(sample.Members(start.union())), 7
				start.was = w.was
				if who == start.source() {
					least = 2
				}
				if need := 2 + least*extents; ops-1 < need || ops-1 > need+2 {
					t.Errorf("of %d sectors, %+v, node %d: %d operations, want %d, or two more", size, w, who, ops-1, need)
				}
			}
		}
	}
}

// Both disks break, each at an operation of its own.
func TestP30_3BothBreak(t *testing.T) {
	start := apart(20)
	for _, w := range ways()[:4] {
		for one := range 14 {
			for other := range 28 {
				for _, spares := range []uint64{0, 1, 6, all} {
					p := start.copy()
					what := fmt.Sprintf("%+v, %d and %d operations, and crashes that spare %#x", w, one, other, spares)
					p.was = w.was
					union := p.union()
					p.disks[0].Fuse(one)
					p.disks[1].Fuse(other)
					if p.meet(t, what, 0) == api.OK {
						p.stumble(t, what)
					}
					p.disks[0].Crash(spares)
					p.disks[1].Crash(^spares)
					p.unlikeIsKnown(t, what, union)
					p.again(t, what, w, union)
				}
			}
		}
	}
}

// stumble: as a run, but what comes to a node whose disk is broken is lost, and the other one goes on.
func (p *pair) stumble(t *testing.T, what string) {
	t.Helper()
	for len(p.row[0])+len(p.row[1]) > 0 {
		for to := range 2 {
			p.deliver(t, what, to)
		}
	}
}

// The link is cut behind each number of messages: what is not copied is known, and a new meeting makes all alike.
func TestP30_3CutOff(t *testing.T) {
	start := apart(20)
	for _, w := range ways() {
		for came := range 9 {
			p := start.copy()
			what := fmt.Sprintf("%+v, cut behind %d messages", w, came)
			p.was = w.was
			union := p.union()
			if err := p.meet(t, what, w.begin); err != api.OK {
				t.Fatalf("%s: %v", what, err)
			}
			to := w.first
			for range came {
				if len(p.row[to]) == 0 {
					to = 1 - to
				}
				p.deliver(t, what, to)
				to = (to + p.sectors + came) % 2
			}
			p.unlikeIsKnown(t, what, union)
			p.again(t, what, w, union)
		}
	}
}

// Meeting upon meeting without a pattern, with writes that reach one disk alone, and are known there, or at the other node, in between.
func TestP30_3LongRuns(t *testing.T) {
	for _, size := range []int{12, 23, 40} {
		p := apart(size)
		extents := uint64(size-8) / 4
		for i, x := range sample.Words()[130:630] {
			w := ways()[x%32]
			for range x >> 5 % 4 {
				x = x>>7 | x<<57
				e, who := int(x>>8%extents), int(x&1)
				sample.Lay(p.disks[who], 8+4*e+int(x>>20%4), api.Sector(sample.Pattern(int(x>>30%999), 1)))
				if x&2 == 0 {
					who = 1 - who
				}
				if x&4 == 0 {
					actlog.Put(p.disks[who], actlog.Get(p.disks[who])|1<<e)
				} else {
					dirty.Put(p.disks[who], dirty.Get(p.disks[who])|1<<e)
				}
			}
			what := fmt.Sprintf("meeting %d, %+v", i, w)
			p.was = w.was
			union := p.union()
			for who := range 2 {
				if x>>(40+who)&1 == 1 {
					p.disks[who].Fuse(int(x >> (45 + 6*who) % 20))
				}
			}
			if p.meet(t, what, w.begin) == api.OK {
				p.stumble(t, what)
			}
			p.disks[0].Crash(x)
			p.disks[1].Crash(x >> 8)
			p.unlikeIsKnown(t, what, (1<<extents)-1)
			if i%5 == 4 {
				p.again(t, what, w, union)
			}
		}
	}
}
