package resync_test

import (
	"bytes"
	"fmt"
	"math"
	"testing"

	"twain/api"
	"twain/disk"
	"twain/resync"
	"twain/sample"
)

// The Greets that are handed in are not changed, with the room behind their empty Data, and may be changed behind the call.
func TestR3TheGreets(t *testing.T) {
	for who := range 2 {
		mine, theirs := sample.Greet(1, false), sample.Greet(2, false)
		var memories [2][]byte
		mine.Data, memories[0] = sample.WithRoom([]byte{}, 9, 100)
		theirs.Data, memories[1] = sample.WithRoom([]byte{}, 9, 100)
		n, told, err := begins(t, "with room", sample.Knowing(16, 1, 2), who, 8, mine, theirs)
		if err != api.OK || mine.Mask != 1 || theirs.Mask != 2 || len(told) != 2-2*who {
			t.Errorf("node %d: %v, %v", who, sample.ShownAll(told), err)
		}
		for _, memory := range memories {
			if !bytes.Equal(memory, bytes.Repeat([]byte{9}, 100)) {
				t.Errorf("node %d: Begin changed the room behind a Greet's Data", who)
			}
			sample.Spoil(memory)
		}
		n.stands(t, "behind a change of the Greets")
	}
}

// Bytes that are handed to Take are not changed, with the room behind their end, and are not kept, be the Ext put, refused, cut off, or not looked at.
func TestR3BytesHandedToTake(t *testing.T) {
	for _, size := range []int{0, 63, 64, 65} {
		for ops := -1; ops < 8; ops++ {
			for _, fresh := range []func() *node{func() *node { return targetOf(t, 16, 3) }, func() *node { return sourceOf(t, 16, 3) }} {
				for _, kind := range sample.MessageKinds() {
					n := fresh()
					n.fuse(ops)
					b, memory := sample.WithRoom(sample.Bytes(size), 99, 40)
					was := bytes.Clone(memory)
					m := api.Message{Kind: kind, Off: 1, Data: b}
					n.takes(t, "with room", m)
					if !bytes.Equal(memory, was) || m.Kind != kind || m.Off != 1 || len(m.Data) != size {
						t.Errorf("Take of %s changed what was handed in", sample.Shown(m))
					}
					sample.Spoil(b)
					n.stands(t, "what was handed in is changed")
				}
			}
		}
	}
}

// spoils: each message that was told, and its Data with their room, are written over; those behind it stay as they were. Then the list with its room.
func spoils(t *testing.T, told []api.Message) {
	t.Helper()
	var was []string
	for _, m := range told {
		was = append(was, fmt.Sprint(m))
	}
	for i, m := range told {
		if fmt.Sprint(m) != was[i] {
			t.Errorf("message %d is %v behind a change of one ahead of it, and was %s", i, m, was[i])
		}
		_ = append(m.Data, 1, 2, 3)
		sample.Spoil(m.Data)
	}
	told = told[:cap(told)]
	for i := range told {
		told[i] = api.Message{Kind: 77}
	}
}

// What a source tells is the caller's: whoever changes it changes neither the disk, nor the Resync, nor what another call tells.
func TestR3WhatTheSourceTells(t *testing.T) {
	d := sample.Knowing(24, 15, 0)
	n, told, _ := begins(t, "the source", d, 0, 16, sample.Greet(15, false), sample.Greet(0, false))
	spoils(t, told)
	n.stands(t, "what was told is changed")
	other, again, _ := begins(t, "once more", d, 0, 16, sample.Greet(15, false), sample.Greet(0, false))
	for i, m := range again {
		if !bytes.Equal(m.Data, sample.ExtentBytes(d, i)) {
			t.Errorf("message %d is %s", i, sample.Shown(m))
		}
	}
	for _, n := range []*node{n, other} {
		n.plain.d = d.Copy()
		for e := range 3 {
			n.takes(t, "a Have", sample.Have(e))
			spoils(t, again)
		}
		told, _ := n.takes(t, "the last one", sample.Have(3))
		spoils(t, told)
		n.stands(t, "the End that was told is changed")
	}
	_, one, _ := begins(t, "no extent", d, 0, 16, sample.Greet(0, false), sample.Greet(0, false))
	_, two, _ := begins(t, "no extent", d, 0, 16, sample.Greet(0, false), sample.Greet(0, false))
	spoils(t, one)
	if !sample.AlikeAll(two, []api.Message{end()}) {
		t.Errorf("an End that was changed changed another one: %v", sample.ShownAll(two))
	}
}

// What a target tells shares nothing with what came, nor with the disk, nor with what it told ahead.
func TestR3WhatTheTargetTells(t *testing.T) {
	n := targetOf(t, 24, 15)
	var first []api.Message
	for e := range 4 {
		m := sample.Ext(e, bytesFor(e))
		told, _ := n.takes(t, "an Ext", m)
		if e == 0 {
			first = told
			continue
		}
		spoils(t, told)
		if !bytes.Equal(m.Data, bytesFor(e)) {
			t.Errorf("the Have that was changed changed the Ext: %s", sample.Shown(m))
		}
		n.stands(t, "the Have that was told is changed")
	}
	if !sample.AlikeAll(first, []api.Message{sample.Have(0)}) {
		t.Errorf("a Have that was changed changed another one: %v", sample.ShownAll(first))
	}
}

// Two Resyncs on disks of their own: what comes to one is nothing to the other.
func TestR4ResyncsGoTheirOwnWays(t *testing.T) {
	one, other := sourceOf(t, 24, 15), sourceOf(t, 24, 15)
	third, fourth := targetOf(t, 24, 15), targetOf(t, 24, 15)
	everyone := []*node{one, other, third, fourth}
	step := func(n *node, m api.Message) {
		t.Helper()
		n.takes(t, "one of four", m)
		for i, n := range everyone {
			n.stands(t, fmt.Sprintf("number %d", i))
		}
	}
	for e := range 4 {
		step(one, sample.Have(e))
		step(other, sample.Have(3-e))
		step(third, sample.Ext(e, sample.Pattern(e, 4)))
		step(fourth, sample.Ext(3-e, sample.Pattern(9*e, 4)))
	}
	step(third, end())
	if !one.r.Over() || !other.r.Over() || !third.r.Over() || fourth.r.Over() {
		t.Errorf("Over: %v, %v, %v, %v", one.r.Over(), other.r.Over(), third.r.Over(), fourth.r.Over())
	}
}

// Two Resyncs on one disk: each has its own extents left, and its own end; what one did to the disk the other finds there.
func TestR4TwoOnOneDisk(t *testing.T) {
	d := sample.Knowing(16, 3, 0)
	g := sample.Greet(3, false)
	one, _, _ := resync.Begin(d, 0, 8, g, g)
	other, _, _ := resync.Begin(d, 0, 8, g, g)
	ops := d.Ops()
	for i, c := range []struct {
		r    *resync.Resync
		e    int
		ops  int
		told int
		left [2]uint64
	}{{one, 0, 2, 0, [2]uint64{2, 3}}, {other, 0, 2, 0, [2]uint64{2, 2}}, {other, 1, 4, 1, [2]uint64{2, 0}}, {one, 1, 4, 1, [2]uint64{0, 0}}} {
		told, err := c.r.Take(sample.Have(c.e))
		if len(told) != c.told || err != api.OK || d.Ops() != ops+c.ops || one.Left() != c.left[0] || other.Left() != c.left[1] {
			t.Errorf("step %d: %v, %v, %d operations, Left %#x, %#x", i, sample.ShownAll(told), err, d.Ops()-ops, one.Left(), other.Left())
		}
	}
}

// The same calls, on disks that are alike, tell the same, and leave them alike.
func TestR4TheSameAgain(t *testing.T) {
	for who := range 2 {
		one, other := sample.Knowing(32, 7, 56), sample.Knowing(32, 7, 56)
		mine, theirs := sample.Greet(63, false), sample.Greet(1, false)
		r, told, _ := resync.Begin(one, who, 24, mine, theirs)
		s, again, _ := resync.Begin(other, who, 24, mine, theirs)
		if !sample.AlikeAll(told, again) {
			t.Errorf("Begin: %v, and again %v", sample.ShownAll(told), sample.ShownAll(again))
		}
		for i, w := range sample.Words()[130:400] {
			m := sample.Have(int(w >> 8 % 7))
			if w&1 == 0 {
				m = sample.Ext(m.Off, sample.Pattern(i, 4))
			}
			one.Fuse(int(w >> 20 % 9))
			other.Fuse(int(w >> 20 % 9))
			told, err := r.Take(m)
			again, errAgain := s.Take(m)
			if !sample.AlikeAll(told, again) || err != errAgain || r.Left() != s.Left() || r.Over() != s.Over() {
				t.Errorf("Take(%s): %v, %v, and again %v, %v", sample.Shown(m), sample.ShownAll(told), err, sample.ShownAll(again), errAgain)
			}
			leaves(t, "the same Take", one, other)
			one.Crash(w >> 30)
			other.Crash(w >> 30)
		}
	}
}

func TestR5AResyncThatNoCallMade(t *testing.T) {
	for _, r := range []*resync.Resync{nil, {}, new(resync.Resync)} {
		// Twice: no call makes it.
		for range 2 {
			for _, m := range append(anything(), sample.Ext(0, sample.Bytes(64)), sample.Have(0), end()) {
				if told, err := r.Take(m); told != nil || err != api.ErrMade {
					t.Fatalf("Take(%s): %v, %v, want nothing, %v", sample.Shown(m), sample.ShownAll(told), err, api.ErrMade)
				}
			}
			if r.Source() || r.Over() || r.Left() != 0 {
				t.Fatalf("Source %v, Over %v, Left %#x", r.Source(), r.Over(), r.Left())
			}
		}
		if r != nil && *r != (resync.Resync{}) {
			t.Errorf("a Resync that no call made became %v", *r)
		}
	}
}

func TestR5ADiskThatNoCallMade(t *testing.T) {
	for _, d := range []*disk.Disk{nil, {}, new(disk.Disk)} {
		for _, mask := range []uint64{0, 1, all} {
			for _, sectors := range []int{-4, 0, 3, 4, 256, math.MaxInt} {
				for who := range 2 {
					for _, was := range flags() {
						beginStays(t, "no disk", d, who, sectors, sample.Greet(mask, was), sample.Greet(0, false), api.ErrMade)
						beginStays(t, "no disk", d, who, sectors, sample.Have(1), sample.Greet(0, was), api.ErrArg)
					}
				}
			}
		}
		if d.Made() || d != nil && fmt.Sprint(*d) != fmt.Sprint(disk.Disk{}) {
			t.Errorf("a Disk that no call made became %v", d)
		}
	}
}

// Each number and each message that may not be, and some that may, on disks of all sorts; none panics.
func TestR1WhateverIsGiven(t *testing.T) {
	numbers := append(append(sample.NoExtents(), sample.Ends()...), 0, 1, 2, 3, 4, 62, 63, 252, 253)
	messages := anything()
	for _, n := range numbers {
		for _, b := range [][]byte{nil, {}, sample.Bytes(63), sample.Bytes(64)} {
			messages = append(messages, api.Message{Kind: n, Id: n, Off: n, Mask: uint64(n), Was: n < 0, Data: b}, sample.Ext(n, b), sample.Have(n))
		}
	}
	for _, size := range []int{0, 1, 6, 8, 11, 12, 24, 264} {
		for _, fuse := range []int{math.MinInt, -1, 0, 1, 5, math.MaxInt} {
			for i, m := range messages {
				d := sample.Disk(size)
				d.Fuse(fuse)
				sectors := numbers[i%len(numbers)]
				begins(t, "whatever", d, i%2, sectors, m, sample.Greet(uint64(i), false))
				begins(t, "whatever", d, sectors, sectors, sample.Greet(uint64(i), true), m)
			}
			for who := range 2 {
				d := sample.Disk(size)
				n, _, err := begins(t, "whatever", d, who, size-8, sample.Greet(3, false), sample.Greet(0, false))
				if err != api.OK {
					continue
				}
				for i, m := range messages {
					n.fuse(fuse)
					n.takes(t, "whatever", m)
					n.crash(uint64(i))
				}
			}
		}
	}
}
