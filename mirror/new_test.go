package mirror_test

import (
	"fmt"
	"testing"

	"twain/api"
	"twain/disk"
	"twain/mirror"
	"twain/sample"
)

// masks: sets of none, one, several and all extents.
func masks() []uint64 {
	return []uint64{0, 1, 2, 5, 7, 0xf0, 1 << 63, 1<<63 | 1, 0xffff, 0x1ffff, 0x0102030405060708, all - 1, all}
}

// rooms: of most: those that may be, both ends among them.
func rooms() []int { return []int{1, 2, 3, 4, 15, 16} }

// noRooms: numbers that most may not be, by a little, with the low bits of one that may, and at the ends of an int.
func noRooms() []int {
	return append([]int{0, -1, -2, -3, -16, 17, 18, 32, 64, 256, 259}, sample.Ends()...)
}

// Write 5 (0, 1): Data 5. Ack 5: ends.
func TestP31_2Example(t *testing.T) {
	d := sample.Disk(16)
	m, err := mirror.New(d, 3, 0, 0)
	if err != api.OK {
		t.Fatal(err)
	}
	b := sample.Bytes(16)
	ok, told, err := m.Write(5, at(0, 1), b)
	if !ok || err != api.OK || len(told) != 1 || !sample.AlikeMessages(told[0], api.Message{Kind: 2, Id: 5, Data: b}) {
		t.Errorf("Write: %v, %v, %v", ok, sample.ShownAll(told), err)
	}
	if m.Hot() != 1 || len(m.Flights()) != 1 || m.Flights()[0].Ticket != 5 || len(m.Later()) != 0 || !m.Busy(at(0, 1)) || m.Busy(at(1, 7)) {
		t.Errorf("Hot %#x, Flights %v, Later %v, Busy %v, %v", m.Hot(), flying(m.Flights()), m.Later(), m.Busy(at(0, 1)), m.Busy(at(1, 7)))
	}
	done, told, err := m.Take(api.Message{Kind: 3, Id: 5})
	if len(done) != 1 || done[0] != 5 || len(told) != 0 || err != api.OK || len(m.Flights()) != 0 || m.Busy(at(0, 1)) {
		t.Errorf("Take: %v, %v, %v, Flights %v", done, sample.ShownAll(told), err, flying(m.Flights()))
	}
}

// Both nodes, with all that the log may have told, and room for less and for more: nothing flies, nothing waits, and the disk is as it was.
func TestP31_1New(t *testing.T) {
	for _, size := range []int{1, 7, 8, 9, 16, 24, 264, api.MaxDisk} {
		for _, most := range rooms() {
			for who := range 2 {
				for _, mask := range masks() {
					what := fmt.Sprintf("of %d sectors", size)
					d := sample.Filled(size)
					n, err := makes(t, what, d, most, who, mask)
					if err != api.OK || n.m.Hot() != mask || len(n.m.Flights()) != 0 || len(n.m.Later()) != 0 || d.Ops() != sample.Filled(size).Ops() {
						t.Fatalf("%s: New(%d, %d, %#x): %v", what, most, who, mask, err)
					}
					for _, s := range append(sample.SmallSpans(4), at(0, 256), at(-1, 2)) {
						if n.m.Busy(s) {
							t.Fatalf("%s: New(%d, %d, %#x): Busy(%v)", what, most, who, mask, s)
						}
					}
				}
			}
		}
	}
}

// A disk that broke, or has things cached, is one all the same: nothing is done to it.
func TestP31_1NewAsksNothingOfTheDisk(t *testing.T) {
	for who := range 2 {
		d := sample.Broken(sample.Knowing(16, 1, 2))
		if n, err := makes(t, "broken", d, 3, who, 5); n == nil || err != api.OK {
			t.Errorf("node %d, of a disk that broke: %v", who, err)
		}
		d = sample.Knowing(16, 1, 2)
		d.Write(9, api.Sector{9})
		d.Fuse(0)
		if n, err := makes(t, "cached", d, 3, who, 5); n == nil || err != api.OK || len(d.Cached()) != 1 || d.Broken() {
			t.Errorf("node %d, of a disk with a sector cached: %v, Cached %v", who, err, d.Cached())
		}
	}
}

// The log that stands on the disk is not asked: what is hot is what New is told.
func TestP31_1WhatIsHot(t *testing.T) {
	for _, log := range masks() {
		n, _ := makes(t, "a log", sample.Knowing(24, log, 6), 3, 1, 4)
		if n.m.Hot() != 4 {
			t.Errorf("the log %#x: Hot %#x, want 4", log, n.m.Hot())
		}
	}
}

func TestP31_1WrongArguments(t *testing.T) {
	for _, d := range []*disk.Disk{sample.Disk(16), sample.Disk(1), sample.Broken(sample.Disk(16))} {
		for _, mask := range masks() {
			for _, who := range sample.NoNodes() {
				for _, most := range append(noRooms(), rooms()...) {
					if n, err := makes(t, "no node", d, most, who, mask); n != nil || err != api.ErrArg {
						t.Fatalf("New(%d, %d, %#x): %v", most, who, mask, err)
					}
				}
			}
			for _, most := range noRooms() {
				for who := range 2 {
					if n, err := makes(t, "no room", d, most, who, mask); n != nil || err != api.ErrArg {
						t.Fatalf("New(%d, %d, %#x): %v", most, who, mask, err)
					}
				}
			}
		}
	}
}

// A disk that no call made is ErrMade, whatever else is wrong.
func TestR5ADiskThatNoCallMade(t *testing.T) {
	for _, d := range []*disk.Disk{nil, {}, new(disk.Disk)} {
		for _, mask := range masks() {
			for _, who := range append(sample.NoNodes(), 0, 1) {
				for _, most := range append(noRooms(), rooms()...) {
					if n, err := makes(t, "no disk", d, most, who, mask); n != nil || err != api.ErrMade {
						t.Fatalf("New(%d, %d, %#x): %v", most, who, mask, err)
					}
				}
			}
		}
		if d.Made() || d != nil && fmt.Sprint(*d) != fmt.Sprint(disk.Disk{}) {
			t.Errorf("a Disk that no call made became %v", d)
		}
	}
}

// Forget empties the hot set alone: what flies and waits stays, and so does the log, until a Write turns the set.
func TestP31_4Forget(t *testing.T) {
	for who := range 2 {
		for _, mask := range masks() {
			n, _ := makes(t, "hot", sample.Knowing(40, mask, 9), 3, who, mask)
			n.forgets(t, "hot")
			if n.m.Hot() != 0 || sample.RingWord(n.d, 2, 4) != mask {
				t.Errorf("Hot %#x, the log %#x, want 0, %#x", n.m.Hot(), sample.RingWord(n.d, 2, 4), mask)
			}
		}
		n := nodeOf(t, 32, 3, who)
		n.flies(t, "one", 3, at(2, 4))
		n.takes(t, "one of the other node", dataOf(7, at(4, 4)))
		n.forgets(t, "a flight")
		if n.m.Hot() != 0 || len(n.m.Flights()) != 1 || len(n.m.Later()) != who || sample.RingWord(n.d, 2, 4) != 3 {
			t.Errorf("node %d: Hot %#x, Flights %v, Later %v, the log %#x", who, n.m.Hot(), flying(n.m.Flights()), n.m.Later(), sample.RingWord(n.d, 2, 4))
		}
		// What a flight has is not in the set any more: it is not asked to stay there, and there is room for three others.
		n.flies(t, "behind it", 4, at(16, 8))
		if n.m.Hot() != 0x30 || sample.RingWord(n.d, 2, 4) != 0x30 {
			t.Errorf("node %d: Hot %#x, the log %#x, want 0x30", who, n.m.Hot(), sample.RingWord(n.d, 2, 4))
		}
		n.forgets(t, "twice")
		n.forgets(t, "twice")
	}
}
