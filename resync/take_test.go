package resync_test

import (
	"fmt"
	"slices"
	"testing"

	"twain/actlog"
	"twain/api"
	"twain/dirty"
	"twain/pack"
	"twain/sample"
)

// few: sets of one to four extents, at both ends and side by side.
func few() []uint64 { return []uint64{1, 2, 5, 7, 0b1011, 1 << 63, 1<<63 | 1, 1<<63 | 1<<32 | 1<<31} }

// sizeFor: of a disk that has all extents of the set, and a part of one behind them.
func sizeFor(set uint64) int {
	list := sample.Members(set)
	return 8 + 4*list[len(list)-1] + 7
}

// bytesFor: other bytes for each extent than a disk has there.
func bytesFor(e int) []byte { return sample.Pattern(100+e, 4) }

// struck: the source is told once, and then twice, that the extent is there: it is left no longer, and costs two operations alone; behind the last one End is told.
func struck(t *testing.T, n *node, e int) {
	t.Helper()
	ops, left := n.d.Ops()+2, sample.Without(n.r.Left(), e)
	if left == 0 {
		n.answers(t, "the last one", sample.Have(e), end())
	} else {
		n.answers(t, "not the last one", sample.Have(e))
	}
	for range 3 {
		if n.r.Left() != left || dirty.Get(n.d) != left || n.d.Ops() != ops || n.r.Over() != (left == 0) || !n.r.Source() {
			t.Fatalf("behind the Have of %d: Left %#x, the bitmap %#x, want %#x; Ops %d, want %d; Over %v", e, n.r.Left(), dirty.Get(n.d), left, n.d.Ops(), ops, n.r.Over())
		}
		n.takeStays(t, "once more", sample.Have(e), api.OK)
	}
}

// Each Have, in each order of a few extents.
func TestP30_2HavesInEachOrder(t *testing.T) {
	for _, set := range few() {
		list := sample.Members(set)
		for _, order := range sample.Orders(len(list)) {
			n := sourceOf(t, sizeFor(set), set)
			for _, i := range order {
				struck(t, n, list[i])
			}
		}
	}
}

// Of many extents, and of all 64 of them.
func TestP30_2HavesOfManyExtents(t *testing.T) {
	for _, set := range []uint64{0x5555555555555555, all - 1, all} {
		for _, way := range sample.WaysThrough[int]() {
			n := sourceOf(t, 264, set)
			for _, e := range way(sample.Members(set)) {
				struck(t, n, e)
			}
		}
	}
}

// got: the target gets the extent, whether it is left, or came already: it is there, and is told; five operations, and two more for the bitmap, if it was there.
func got(t *testing.T, n *node, e int, b []byte) {
	t.Helper()
	ops := n.d.Ops() + 5
	if dirty.Get(n.d)>>e&1 == 1 {
		ops += 2
	}
	left, over := sample.Without(n.r.Left(), e), n.r.Over()
	n.answers(t, "an Ext", sample.Ext(e, b), sample.Have(e))
	if n.r.Left() != left || dirty.Get(n.d)>>e&1 == 1 || n.d.Ops() != ops || len(n.d.Cached()) != 0 || n.r.Over() != over || n.r.Source() {
		t.Fatalf("behind the Ext of %d: Left %#x, want %#x, the bitmap %#x, Ops %d, want %d, Over %v", e, n.r.Left(), left, dirty.Get(n.d), n.d.Ops(), ops, n.r.Over())
	}
	if !slices.Equal(sample.ExtentBytes(n.d, e), b) {
		t.Fatalf("behind the Ext of %d: %v", e, sample.ExtentBytes(n.d, e))
	}
}

// Each Ext, in each order, and twice, the second one with other bytes: what came last is there. With all of them it is not Over: that is told by an End.
func TestP30_2ExtsInEachOrder(t *testing.T) {
	for _, set := range few() {
		list := sample.Members(set)
		for _, order := range sample.Orders(len(list)) {
			n := targetOf(t, sizeFor(set), set)
			for _, i := range order {
				got(t, n, list[i], sample.Pattern(i, 4))
				got(t, n, list[i], bytesFor(list[i]))
			}
			if n.r.Left() != 0 || n.r.Over() || dirty.Get(n.d) != 0 {
				t.Errorf("with all of %#x: Left %#x, Over %v, the bitmap %#x", set, n.r.Left(), n.r.Over(), dirty.Get(n.d))
			}
			n.answers(t, "the end", end())
			if !n.r.Over() {
				t.Errorf("behind the end it is not Over")
			}
		}
	}
}

func TestP30_2ExtsOfManyExtents(t *testing.T) {
	for _, set := range []uint64{0x5555555555555555, all - 1, all} {
		for _, way := range sample.WaysThrough[int]() {
			n := targetOf(t, 264, set)
			for _, e := range way(sample.Members(set)) {
				got(t, n, e, bytesFor(e))
			}
		}
	}
}

// An End ends it, with whatever is left; what comes behind it does nothing.
func TestP30_2AnEndAheadOfTheLastExt(t *testing.T) {
	for _, set := range few() {
		list := sample.Members(set)
		for came := range len(list) {
			n := targetOf(t, sizeFor(set), set)
			left := set
			for _, e := range list[:came] {
				got(t, n, e, bytesFor(e))
				left = sample.Without(left, e)
			}
			was := n.d.Copy()
			n.answers(t, "an early End", end())
			for range 2 {
				if !n.r.Over() || n.r.Left() != left || dirty.Get(n.d) != left {
					t.Errorf("behind %d of %#x: Over %v, Left %#x, the bitmap %#x, want %#x", came, set, n.r.Over(), n.r.Left(), dirty.Get(n.d), left)
				}
				for _, e := range list {
					n.takeStays(t, "behind the end", sample.Ext(e, bytesFor(e+1)), api.OK)
				}
				n.takeStays(t, "behind the end", end(), api.OK)
			}
			leaves(t, "behind the end", n.d, was)
		}
	}
}

// anything: a message of each Kind that may be, and of some that may not, with each extent, good ones and others.
func anything() []api.Message {
	list := slices.DeleteFunc(sample.Messages(), func(m api.Message) bool {
		return m.Kind == pack.Data && (m.Id > 2 || len(m.Data) != 16)
	})
	for _, kind := range append(sample.MessageKinds(), sample.NoMessageKinds()...) {
		list = append(list, api.Message{Kind: kind}, api.Message{Kind: kind, Off: 1}, api.Message{Kind: kind, Id: 5, Off: 1, Mask: 3, Was: true, Data: sample.Bytes(64)})
	}
	return list
}

// Whatever comes when it is Over, good or not, does nothing, be the disk broken or not.
func TestP30_2WhenItIsOver(t *testing.T) {
	source, target := sourceOf(t, 16, 3), targetOf(t, 16, 3)
	struck(t, source, 1)
	struck(t, source, 0)
	target.answers(t, "the end", end())
	empty := sourceOf(t, 16, 0)
	for _, n := range []*node{source, target, empty} {
		for range 2 {
			if !n.r.Over() {
				t.Fatalf("it is not Over")
			}
			for _, m := range anything() {
				n.takeStays(t, "over", m, api.OK)
			}
			n.fuse(0)
			n.takeStays(t, "over, no operation left", sample.Ext(1, sample.Bytes(64)), api.OK)
			n.takeStays(t, "over, no operation left", sample.Have(1), api.OK)
			sample.Broken(n.d)
			sample.Broken(n.plain.d)
		}
	}
}

// Of all messages but a Have the source does nothing; of all but an Ext and an End the target does nothing. Whether the disk is broken is not asked.
func TestP30_2OfOthersNothing(t *testing.T) {
	source, target := sourceOf(t, 16, 3), targetOf(t, 16, 3)
	for range 2 {
		for _, m := range anything() {
			if m.Kind != pack.Have {
				source.takeStays(t, "the source", m, api.OK)
			}
			if m.Kind != pack.Ext && m.Kind != pack.End {
				target.takeStays(t, "the target", m, api.OK)
			}
		}
		for _, n := range []*node{source, target} {
			sample.Broken(n.d)
			sample.Broken(n.plain.d)
		}
	}
}

// A Have of an extent that is not of the union, or came already, or is none, does nothing; nor is the disk asked.
func TestP30_2AHaveOfWhatIsNotLeft(t *testing.T) {
	for _, set := range few() {
		n := sourceOf(t, sizeFor(set), set)
		for _, e := range sample.Members(set)[1:] {
			struck(t, n, e)
		}
		for range 2 {
			for _, off := range append(sample.NoExtents(), sample.Ends()...) {
				n.takeStays(t, "no extent", sample.Have(off), api.OK)
			}
			for off := range 64 {
				if n.r.Left()>>off&1 == 0 {
					n.takeStays(t, "not left", sample.Have(off), api.OK)
				}
			}
			sample.Broken(n.d)
			sample.Broken(n.plain.d)
		}
	}
}

// Extents that the data area has not are not of the union: a Have of one does nothing.
func TestP30_2AHaveOfAnExtentThatIsNotThere(t *testing.T) {
	for _, size := range []int{16, 17, 19} {
		n, _, _ := begins(t, "more in the Mask", sample.Knowing(size, all, 0), 0, size-8, sample.Greet(all, false), sample.Greet(all, false))
		for off := 2; off < 64; off++ {
			n.takeStays(t, "not there", sample.Have(off), api.OK)
		}
		struck(t, n, 0)
		struck(t, n, 1)
	}
}

// What a Have, or an End, does not have is not looked at.
func TestP30_2WhatAKindHasNot(t *testing.T) {
	for _, set := range []func(m *api.Message){
		func(m *api.Message) { m.Id = 5 },
		func(m *api.Message) { m.Id = -1 },
		func(m *api.Message) { m.Mask = all },
		func(m *api.Message) { m.Was = true },
		func(m *api.Message) { m.Data = sample.Bytes(64) },
		func(m *api.Message) { m.Data = []byte{} },
	} {
		have, last := sample.Have(1), end()
		set(&have)
		set(&last)
		source, target := sourceOf(t, 16, 3), targetOf(t, 16, 3)
		source.answers(t, "a Have with more", have)
		target.answers(t, "an End with more", last)
		if source.r.Left() != 1 || !target.r.Over() {
			t.Errorf("%s: Left %#x; %s: Over %v", sample.Shown(have), source.r.Left(), sample.Shown(last), target.r.Over())
		}
	}
	target := targetOf(t, 16, 3)
	target.answers(t, "an End with an Off", api.Message{Kind: pack.End, Off: -9})
	if !target.r.Over() {
		t.Errorf("an End with an Off: not Over")
	}
}

// An Ext that may not be is refused, and all is as it was, be the disk broken or not.
func TestP30_2AnExtThatIsNotGood(t *testing.T) {
	n := targetOf(t, 16, 3)
	for range 2 {
		for _, m := range sample.NoExts() {
			if m.Kind == pack.Ext {
				n.takeStays(t, "not good", m, api.ErrArg)
			}
		}
		sample.Broken(n.d)
		sample.Broken(n.plain.d)
	}
	n.takeStays(t, "good, and the disk is broken", sample.Ext(1, sample.Bytes(64)), api.ErrDown)
}

// An Ext that was not asked for is put, too, and told; what is left stays so.
func TestP30_2AnExtThatWasNotAskedFor(t *testing.T) {
	for _, set := range []uint64{0, 1, 4, 5} {
		n := targetOf(t, 24, set)
		for e := range 4 {
			if set>>e&1 == 0 {
				got(t, n, e, bytesFor(e))
				if n.r.Left() != set {
					t.Errorf("of %#x, behind the Ext of %d: Left %#x", set, e, n.r.Left())
				}
			}
		}
	}
}

// One that the disk has not, or has in part alone, is refused; one that it has beyond the sectors that were told is put.
func TestP30_2AnExtThatIsNotThere(t *testing.T) {
	for _, size := range []int{8, 9, 12, 16, 17, 19} {
		n := targetOf(t, size, all)
		for e := range 64 {
			if !sample.HasExtent(n.d, e) {
				n.takeStays(t, "not there", sample.Ext(e, bytesFor(e)), api.ErrRange)
			}
		}
		sample.Broken(n.d)
		sample.Broken(n.plain.d)
		n.takeStays(t, "not there, and the disk is broken", sample.Ext(63, bytesFor(0)), api.ErrRange)
	}
	n, _, _ := begins(t, "fewer sectors", sample.Knowing(24, 0, 7), 1, 8, sample.Greet(7, false), sample.Greet(0, false))
	got(t, n, 2, bytesFor(2))
	if n.r.Left() != 3 {
		t.Errorf("behind an Ext beyond the sectors: Left %#x", n.r.Left())
	}
	// And one that is left, since more sectors were told than there are: it stays left.
	n, _, _ = begins(t, "more sectors", sample.Knowing(16, 0, 7), 1, 16, sample.Greet(7, false), sample.Greet(0, false))
	n.takeStays(t, "more sectors", sample.Ext(2, bytesFor(2)), api.ErrRange)
	if n.r.Left() != 7 {
		t.Errorf("behind an Ext that is not there: Left %#x", n.r.Left())
	}
}

// breaks: the message comes when the disk has so many operations: its error, nothing told, and what was left is left; behind the crash it comes again, and is done.
func breaks(t *testing.T, n *node, m api.Message, ops int, spares uint64, want ...api.Message) {
	t.Helper()
	what := fmt.Sprintf("%d operations, and a crash that spares %#x", ops, spares)
	left := n.r.Left()
	n.fuse(ops)
	if told, err := n.takes(t, what, m); told != nil || err != api.ErrDown || n.r.Left() != left || n.r.Over() || !n.d.Broken() {
		t.Fatalf("%s: Take(%s): %v, %v, Left %#x, want %#x, Over %v", what, sample.Shown(m), sample.ShownAll(told), err, n.r.Left(), left, n.r.Over())
	}
	n.takeStays(t, what+", still broken", m, api.ErrDown)
	n.crash(spares)
	n.answers(t, what+", and once more", m, want...)
	if n.r.Left() != sample.Without(left, m.Off) || dirty.Get(n.d) != n.r.Left() {
		t.Fatalf("%s, and once more: Left %#x, the bitmap %#x", what, n.r.Left(), dirty.Get(n.d))
	}
}

// A Have needs two operations: with fewer of them the extent is still left, and, if it is the last one, no End is told.
func TestP30_2TheSourcesDiskBreaks(t *testing.T) {
	for _, set := range few() {
		for ops := range 2 {
			for _, spares := range []uint64{0, 1, all} {
				n := sourceOf(t, sizeFor(set), set)
				list := sample.Members(set)
				for _, e := range list[1:] {
					breaks(t, n, sample.Have(e), ops, spares)
				}
				breaks(t, n, sample.Have(list[0]), ops, spares, end())
				if !n.r.Over() {
					t.Errorf("behind the last one it is not Over")
				}
			}
		}
	}
}

// An Ext of an extent that is in the bitmap needs seven.
func TestP30_2TheTargetsDiskBreaks(t *testing.T) {
	for _, set := range few() {
		for ops := range 7 {
			for _, spares := range []uint64{0, 1, 5, all} {
				n := targetOf(t, sizeFor(set), set)
				for _, e := range sample.Members(set) {
					breaks(t, n, sample.Ext(e, bytesFor(e)), ops, spares, sample.Have(e))
				}
				n.answers(t, "the end", end())
			}
		}
	}
}

// A disk that broke by another call than the Resync's.
func TestP30_2ABrokenDisk(t *testing.T) {
	source, target := sourceOf(t, 16, 3), targetOf(t, 16, 3)
	for _, n := range []*node{source, target} {
		sample.Broken(n.d)
		sample.Broken(n.plain.d)
	}
	for range 2 {
		source.takeStays(t, "broken", sample.Have(1), api.ErrDown)
		source.takeStays(t, "broken", sample.Have(2), api.OK)
		target.takeStays(t, "broken", sample.Ext(1, bytesFor(1)), api.ErrDown)
		target.takeStays(t, "broken", sample.Ext(2, bytesFor(2)), api.ErrRange)
	}
	// An End needs no disk.
	target.answers(t, "broken", end())
	if !target.r.Over() {
		t.Errorf("behind the End it is not Over")
	}
}

// A bitmap that has no number left: the error is told, and the extent is left; at the target its bytes have been written.
func TestP30_2BehindTheLastRecord(t *testing.T) {
	for who := range 2 {
		d := sample.Knowing(16, 0, 0)
		sample.RingLay(d, 6, 2, greatest, 3)
		n, _, err := begins(t, "the last record", d, who, 8, sample.Greet(3, false), sample.Greet(0, false))
		if err != api.OK {
			t.Fatalf("node %d: %v", who, err)
		}
		m := sample.Have(1)
		if who == 1 {
			m = sample.Ext(1, bytesFor(1))
		}
		if told, err := n.takes(t, "the last record", m); told != nil || err != api.ErrRange || n.r.Left() != 3 || dirty.Get(d) != 3 {
			t.Errorf("node %d: %v, %v, Left %#x, the bitmap %#x", who, sample.ShownAll(told), err, n.r.Left(), dirty.Get(d))
		}
		if who == 1 && !slices.Equal(sample.ExtentBytes(d, 1), bytesFor(1)) {
			t.Errorf("the extent became %v", sample.ExtentBytes(d, 1))
		}
	}
}

// Each row of one to four, of all that can come to a node about two extents, and about one that is not asked for.
func TestP30_2AllShortRuns(t *testing.T) {
	steps := []func(n *node){
		func(n *node) { n.takes(t, "a run", end()) },
		func(n *node) { n.takes(t, "a run", sample.Greet(3, true)) },
		func(n *node) { n.fuse(1) },
		func(n *node) { n.crash(1) },
	}
	for e := range 3 {
		steps = append(steps,
			func(n *node) { n.takes(t, "a run", sample.Have(e)) },
			func(n *node) { n.takes(t, "a run", sample.Ext(e, bytesFor(e))) })
	}
	for length := 1; length <= 4; length++ {
		sample.AllRuns(length, func() *node { return sourceOf(t, 20, 3) }, steps)
		sample.AllRuns(length, func() *node { return targetOf(t, 20, 3) }, steps)
	}
}

// Long runs without a pattern: whatever comes, and whatever breaks, a node is as the chapter's words have it.
func TestP30_2LongRuns(t *testing.T) {
	for i, set := range []uint64{0b111111, 0b101010, 1, 0} {
		for who := range 2 {
			d := sample.Knowing(32, set, 0)
			var n *node
			for _, w := range sample.Words()[130+300*i : 430+300*i] {
				if n == nil || w>>3%40 == 0 {
					d.Crash(w)
					n, _, _ = begins(t, "a long run", d, who, 24, sample.Greet(set, false), sample.Greet(actlog.Get(d)|dirty.Get(d), false))
				}
				e := int(w >> 16 % 8)
				switch w % 8 {
				case 0, 1, 2:
					n.takes(t, "a long run", sample.Have(e))
				case 3, 4, 5:
					n.takes(t, "a long run", sample.Ext(e, sample.Pattern(int(w>>30%999), 4)))
				case 6:
					n.fuse(int(w >> 40 % 12))
				default:
					n.crash(w >> 20)
				}
			}
		}
	}
}
