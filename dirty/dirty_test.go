package dirty_test

import (
	"fmt"
	"math"
	"slices"
	"testing"

	"twain/actlog"
	"twain/api"
	"twain/dirty"
	"twain/disk"
	"twain/sample"
	"twain/seal"
	"twain/slots"
	"twain/super"
)

const (
	all      = math.MaxUint64
	greatest = math.MaxUint32
)

// latest: the number and the mask that the bitmap holds, by the words of chapters 7 and 11, of a disk that works and has room for it.
func latest(d *disk.Disk) (uint32, uint64) { return sample.RingLatest(d, 6, 2) }

// tells: is that the mask, and is the disk as it was?
func tells(t *testing.T, what string, d *disk.Disk, mask uint64) {
	t.Helper()
	was := d.Copy()
	if got := dirty.Get(d); got != mask {
		t.Errorf("%s: Get: %#x, want %#x", what, got, mask)
	}
	if !sample.Alike(d, was) {
		t.Errorf("%s: Get changed the disk", what)
	}
}

// puts: is the mask put?
func puts(t *testing.T, what string, d *disk.Disk, mask uint64) {
	t.Helper()
	want := d.Copy()
	sample.RingTurn(want, 6, 2, mask)
	if err := dirty.Put(d, mask); err != api.OK {
		t.Errorf("%s: Put(%#x): %v", what, mask, err)
	}
	if !sample.Alike(d, want) {
		t.Errorf("%s: Put(%#x): Cached %v, Ops %d, want none, %d", what, mask, d.Cached(), d.Ops(), want.Ops())
	}
	tells(t, what+", behind a Put", d, mask)
}

// clears: is e cleared, and are all others left?
func clears(t *testing.T, what string, d *disk.Disk, e int) {
	t.Helper()
	_, has := latest(d)
	left := sample.Without(has, e)
	want := d.Copy()
	sample.RingTurn(want, 6, 2, left)
	if got, err := dirty.Clear(d, e); got != left || err != api.OK {
		t.Errorf("%s: Clear(%d) of %#x: %#x, %v, want %#x", what, e, has, got, err, left)
	}
	if !sample.Alike(d, want) {
		t.Errorf("%s: Clear(%d) of %#x: Cached %v, Ops %d, want none, %d", what, e, has, d.Cached(), d.Ops(), want.Ops())
	}
	tells(t, what+", behind a Clear", d, left)
}

// putStays: does a Put answer that, and is the disk as it was?
func putStays(t *testing.T, what string, d *disk.Disk, mask uint64, want api.Errno) {
	t.Helper()
	was := d.Copy()
	if err := dirty.Put(d, mask); err != want {
		t.Errorf("%s: Put(%#x): %v, want %v", what, mask, err, want)
	}
	if !sample.Alike(d, was) {
		t.Errorf("%s: Put(%#x) changed the disk: Cached %v, Ops %d, want %v, %d", what, mask, d.Cached(), d.Ops(), was.Cached(), was.Ops())
	}
}

// clearStays: does a Clear answer that, and is the disk as it was?
func clearStays(t *testing.T, what string, d *disk.Disk, e int, left uint64, want api.Errno) {
	t.Helper()
	was := d.Copy()
	if got, err := dirty.Clear(d, e); got != left || err != want {
		t.Errorf("%s: Clear(%d): %#x, %v, want %#x, %v", what, e, got, err, left, want)
	}
	if !sample.Alike(d, was) {
		t.Errorf("%s: Clear(%d) changed the disk: Cached %v, Ops %d, want %v, %d", what, e, d.Cached(), d.Ops(), was.Cached(), was.Ops())
	}
}

// having: a disk of that size whose bitmap has one record, of that number and word.
func having(size int, n uint32, word uint64) *disk.Disk {
	d := sample.Disk(size)
	sample.RingLay(d, 6, 2, n, word)
	return d
}

// filled: a disk of that size with bytes in each sector but the bitmap's.
func filled(size int) *disk.Disk {
	d := sample.Disk(size)
	for at := range size {
		if at != 6 && at != 7 {
			d.Write(at, api.Sector{byte(at), byte(at >> 8), 7})
		}
	}
	return d
}

func TestP11_1Example(t *testing.T) {
	d := sample.Disk(12)
	if err := dirty.Put(d, 6); err != api.OK || dirty.Get(d) != 6 || d.Ops() != 2 {
		t.Errorf("Put 6: %v, Get %d, Ops %d", err, dirty.Get(d), d.Ops())
	}
	if left, err := dirty.Clear(d, 1); left != 4 || err != api.OK || dirty.Get(d) != 4 || d.Ops() != 4 {
		t.Errorf("Clear 1: %d, %v, Get %d, Ops %d", left, err, dirty.Get(d), d.Ops())
	}
	if left, err := dirty.Clear(d, 2); left != 0 || err != api.OK || dirty.Get(d) != 0 || d.Ops() != 6 {
		t.Errorf("Clear 2: %d, %v, Get %d, Ops %d", left, err, dirty.Get(d), d.Ops())
	}
}

// A fresh bitmap has no extent: it need not be written for that.
func TestP11_1AFreshDisk(t *testing.T) {
	for _, size := range []int{8, 9, 12, 24, api.MaxDisk} {
		d := sample.Disk(size)
		what := fmt.Sprintf("of %d sectors", size)
		tells(t, what, d, 0)
		putStays(t, what, d, 0, api.OK)
		for _, e := range append([]int{0, 1, 62, 63}, sample.NoExtents()...) {
			clearStays(t, what, d, e, 0, api.OK)
		}
		d.Crash(all)
		tells(t, what+", behind a crash", d, 0)
		puts(t, what, d, 1)
		putStays(t, what, d, 1, api.OK)
		clears(t, what, d, 0)
		clearStays(t, what, d, 0, 0, api.OK)
		putStays(t, what, d, 0, api.OK)
		if d.Ops() != 4 {
			t.Errorf("%s: Put 1, Clear 0: Ops %d, want 4", what, d.Ops())
		}
	}
}

// Eight sectors are enough, and of more the others are as they were.
func TestP11_1Runs(t *testing.T) {
	for _, size := range []int{8, 9, 12, api.MaxDisk} {
		d := filled(size)
		what := fmt.Sprintf("of %d sectors", size)
		for i, mask := range append(sample.Words()[:20], sample.Words()[130:170]...) {
			puts(t, what, d, mask)
			clears(t, what, d, i)
			if i%3 == 0 {
				d.Write(i%6, api.Sector{byte(i)})
			}
			puts(t, what, d, mask)
			clears(t, what, d, 63-i)
			clears(t, what, d, 63-i)
			clears(t, what, d, int(mask%64))
		}
	}
}

// The records stand by turns in both sectors, and nothing else does.
func TestP11_1WhereTheRecordsStand(t *testing.T) {
	d := filled(12)
	d.Flush()
	fresh := d.Copy()
	for i := range uint32(50) {
		puts(t, "counted", d, uint64(i+1)<<1|1)
		clears(t, "counted", d, 0)
		if d.Durable(7) != seal.Record(2*i+1, uint64(i+1)<<1|1) || d.Durable(6) != seal.Record(2*i+2, uint64(i+1)<<1) {
			t.Errorf("behind %d Puts and Clears: sectors 6 and 7 have %v, %v", i+1, d.Durable(6), d.Durable(7))
		}
		for at := range 12 {
			if at != 6 && at != 7 && d.Durable(at) != fresh.Durable(at) {
				t.Errorf("sector %d became %v", at, d.Durable(at))
			}
		}
	}
}

// Each mask behind each other one: those that differ in one bit, be it the highest, are not the same.
func TestP11_1EachMaskBehindEachOther(t *testing.T) {
	masks := []uint64{0, 1, 2, 3, 6, 1 << 31, 1 << 32, 1<<32 + 1, greatest, 1 << 63, 1<<63 + 1, all - 1, all >> 1, all}
	d := sample.Disk(8)
	for _, one := range masks {
		for _, other := range masks {
			puts(t, "one", d, one)
			puts(t, "the other", d, other)
		}
	}
}

// Of each set each extent can be cleared: one that is in it is gone, and just that one.
func TestP11_1EachExtent(t *testing.T) {
	for _, mask := range append(sample.Words()[:132], 1<<63+1, 0x5555555555555555, 0xaaaaaaaaaaaaaaaa) {
		d := having(8, 3, mask)
		for e := range 64 {
			c := d.Copy()
			if mask>>e&1 == 0 {
				clearStays(t, "not in the set", c, e, mask, api.OK)
				continue
			}
			if left, err := dirty.Clear(c, e); left != mask-1<<e || err != api.OK || dirty.Get(c) != left || c.Ops() != d.Ops()+2 {
				t.Errorf("Clear(%d) of %#x: %#x, %v, Get %#x, %d operations", e, mask, left, err, dirty.Get(c), c.Ops()-d.Ops())
			}
			clearStays(t, "cleared already", c, e, mask-1<<e, api.OK)
		}
	}
}

// A number that is no extent is in no set: all are left, and nothing is done.
func TestP11_1NoExtent(t *testing.T) {
	for _, mask := range []uint64{0, 1, 2, 6, 1 << 63, 1<<63 + 1, all - 1, all >> 1, all} {
		d := having(8, 4, mask)
		d.Write(0, api.Sector{1})
		for _, e := range sample.NoExtents() {
			clearStays(t, "no extent", d, e, mask, api.OK)
			tells(t, "no extent", d, mask)
		}
	}
}

// The same mask, and a Clear of what is not in the set, cost no operation: what is cached stays so, and a fuse does not burn down.
func TestP11_1TheSameMask(t *testing.T) {
	for _, mask := range sample.Words()[:140] {
		d := having(8, 6, mask)
		d.Write(0, api.Sector{1})
		d.Write(5, api.Sector{2})
		for k := range 3 {
			d.Fuse(k)
			putStays(t, "the same mask", d, mask, api.OK)
			for e := -1; e <= 64; e++ {
				if sample.Without(mask, e) == mask {
					clearStays(t, "not in the set", d, e, mask, api.OK)
				}
			}
			tells(t, "the same mask", d, mask)
		}
		d.Crash(0)
		if d.Durable(0) != (api.Sector{}) || d.Durable(5) != (api.Sector{}) {
			t.Errorf("Put(%#x) of the same mask, or a Clear of what is not in it, flushed the disk", mask)
		}
	}
}

// The record with the greatest number tells the mask, not the one that was laid last, or stands last, or has the greatest word.
func TestP11_1TheGreatestNumber(t *testing.T) {
	for _, c := range []struct {
		even, odd     uint32
		first, second uint64
		mask          uint64
	}{
		{2, 3, 40, 7, 7}, {4, 3, 40, 7, 40}, {4, 3, 0, 7, 0}, {2, 3, 7, 0, 0}, {0, 1, 40, 7, 7}, {2, 0, 40, 7, 40},
		{1000, 1, 1, 500, 1}, {1 << 31, 1<<31 - 1, 9, 3, 9}, {2, greatest - 4, 9, 3, 3}, {greatest - 5, greatest - 6, 9, 3, 9}, {6, 7, all, 1, 1},
	} {
		d := sample.Disk(8)
		sample.Lay(d, 6, seal.Record(c.even, c.first))
		sample.Lay(d, 7, seal.Record(c.odd, c.second))
		what := fmt.Sprint(c)
		tells(t, what, d, c.mask)
		putStays(t, what, d, c.mask, api.OK)
		clearStays(t, what, d, 63, c.mask, api.OK)
		puts(t, what, d, c.mask|1<<63)
		clears(t, what, d, 63)
		tells(t, what, d, c.mask)
	}
}

// What stands beside the ring, or in the other one of its sectors, or is no record, tells nothing, and a Put lays the first record over it.
func TestP11_1NoRecordOfTheBitmap(t *testing.T) {
	for _, n := range []uint32{1, 2, 3, 4, 100, 101, greatest - 1, greatest} {
		d := sample.Disk(10)
		home := sample.RingPlace(n, 6, 2)
		for at := range 10 {
			if at != home {
				sample.Lay(d, at, seal.Record(n, 77))
			}
		}
		tells(t, "records elsewhere", d, 0)
		good := seal.Record(n, 77)
		for place := range api.SectorSize {
			sample.Lay(d, home, api.Sector(sample.Turned(good[:], place, 1)))
			tells(t, "a bit was turned", d, 0)
		}
		putStays(t, "no record", d, 0, api.OK)
		clearStays(t, "no record", d, 0, 0, api.OK)
		puts(t, "no record", d, 77)
		clears(t, "no record", d, 0)
		puts(t, "no record", d, 0)
	}
	for _, word := range []uint64{1, 77, all} {
		d := having(8, 0, word)
		tells(t, "record 0", d, 0)
		putStays(t, "record 0", d, 0, api.OK)
		clearStays(t, "record 0", d, 0, 0, api.OK)
		puts(t, "record 0", d, word)
	}
}

// The superblock and the log ahead of the bitmap are rings of their own, and the data lie behind it.
func TestP11_1RingsSideBySide(t *testing.T) {
	d := sample.Disk(9)
	for i := range uint64(30) {
		super.Next(d)
		actlog.Put(d, 100+i)
		d.Write(8, api.Sector{byte(i), 9})
		puts(t, "beside the others", d, i+1)
		clears(t, "beside the others", d, int(i)%6)
		_, mask := latest(d)
		if super.Boot(d) != uint32(i+1) || actlog.Get(d) != 100+i || d.Durable(8) != (api.Sector{byte(i), 9}) {
			t.Errorf("behind Put and Clear: Boot %d, the log %d, the data %v", super.Boot(d), actlog.Get(d), d.Durable(8))
		}
		tells(t, "beside the others", d, mask)
	}
}

// What is cached is the latest, until a crash takes it.
func TestP11_1Cached(t *testing.T) {
	d := having(8, 4, 10)
	d.Write(7, seal.Record(5, 20))
	tells(t, "cached", d, 20)
	putStays(t, "cached", d, 20, api.OK)
	clearStays(t, "cached", d, 0, 20, api.OK)
	puts(t, "cached", d.Copy(), 10)
	clears(t, "cached", d.Copy(), 2)
	spared := d.Copy()
	spared.Crash(1)
	tells(t, "spared", spared, 20)
	putStays(t, "spared", spared, 20, api.OK)
	clears(t, "spared", spared, 4)
	d.Crash(0)
	tells(t, "taken", d, 10)
	clears(t, "taken", d.Copy(), 3)
	puts(t, "taken", d, 20)
}

// Whatever the sectors hold, and whenever the disk breaks, a Put of another mask is the slots' Put, with its error, and so is a Clear of what is in the set; one of the same mask is nothing.
func TestP11_1WhateverTheRingHolds(t *testing.T) {
	words := sample.Words()[130:]
	for i := 0; i+3 <= len(words); i += 3 {
		d := sample.Disk(8 + i%4)
		for at := range 2 {
			d.Write(6+at, sample.RingSector(words[i+at], at, 2))
			if words[i+at]>>60&1 == 0 {
				d.Flush()
			}
		}
		n, mask := latest(d)
		what := fmt.Sprintf("behind record %d with %#x", n, mask)
		tells(t, what, d, mask)
		d.Fuse(int(words[i+2]%5) - 1)
		putStays(t, what, d, mask, api.OK)
		for e := range 64 {
			left := sample.Without(mask, e)
			if left == mask {
				clearStays(t, what, d, e, mask, api.OK)
				continue
			}
			one, want := d.Copy(), d.Copy()
			wantE := slots.Put(want, 6, 2, left)
			if wantE != api.OK {
				left = 0
			}
			if got, err := dirty.Clear(one, e); got != left || err != wantE || !sample.Alike(one, want) {
				t.Errorf("%s: Clear(%d): %#x, %v, want %#x, %v", what, e, got, err, left, wantE)
			}
		}
		want := d.Copy()
		wantE := slots.Put(want, 6, 2, words[i+2])
		if err := dirty.Put(d, words[i+2]); err != wantE || !sample.Alike(d, want) {
			t.Errorf("%s: Put(%#x): %v, want %v", what, words[i+2], err, wantE)
		}
	}
}

func TestP11_1TheLastRecords(t *testing.T) {
	for _, size := range []int{8, 12} {
		d := having(size, greatest-2, 40)
		tells(t, "two are left", d, 40)
		puts(t, "two are left", d, 43)
		clears(t, "one is left", d, 0)
		for range 3 {
			for _, mask := range []uint64{0, 1, 40, 41, 43, all} {
				putStays(t, "none is left", d, mask, api.ErrRange)
			}
			for _, e := range []int{1, 3, 5} {
				clearStays(t, "none is left", d, e, 0, api.ErrRange)
			}
			putStays(t, "none is left, the same mask", d, 42, api.OK)
			for _, e := range append([]int{0, 2, 4, 63}, sample.NoExtents()...) {
				clearStays(t, "none is left, not in the set", d, e, 42, api.OK)
			}
			tells(t, "none is left", d, 42)
			d.Crash(all)
		}
	}
	for _, mask := range []uint64{0, 1, greatest, 1 << 32, 1 << 63, all - 1, all} {
		d := having(8, greatest, mask)
		tells(t, "the greatest number", d, mask)
		putStays(t, "the greatest number", d, mask, api.OK)
		putStays(t, "the greatest number", d, ^mask, api.ErrRange)
		for e := range 64 {
			if mask>>e&1 == 1 {
				clearStays(t, "the greatest number", d, e, 0, api.ErrRange)
			} else {
				clearStays(t, "the greatest number", d, e, mask, api.OK)
			}
		}
		tells(t, "the greatest number, refused", d, mask)
	}
}

// A disk that lacks one of the ring's sectors, or more, has no bitmap, whatever stands there: Get is 0, so that a Put of 0 and each Clear have nothing to do.
func TestP11_1TooSmall(t *testing.T) {
	for size := 1; size < 8; size++ {
		for _, word := range []uint64{0, 6, all} {
			d := sample.Disk(size)
			for at := range size {
				d.Write(at, seal.Record(uint32(100+at), word)) // Record 106 would stand in sector 6.
			}
			what := fmt.Sprintf("of %d sectors", size)
			for _, k := range []int{-1, 0, 1} {
				d.Fuse(k)
				tells(t, what, d, 0)
				putStays(t, what, d, 0, api.OK)
				for _, mask := range []uint64{1, 6, 1 << 63, all} {
					putStays(t, what, d, mask, api.ErrArg)
				}
				for _, e := range append([]int{0, 1, 2, 63}, sample.NoExtents()...) {
					clearStays(t, what, d, e, 0, api.OK)
				}
			}
			d.Crash(all)
			putStays(t, what+", behind a crash", d, 6, api.ErrArg)
			tells(t, what+", behind a crash", d, 0)
		}
	}
}

// Of a broken disk nothing can be read: it is refused, whatever it held, and whatever 0 may be there.
func TestP11_1ABrokenDisk(t *testing.T) {
	for _, c := range []struct {
		d    *disk.Disk
		mask uint64
	}{{sample.Disk(8), 0}, {sample.Disk(12), 0}, {having(8, 3, 9), 9}, {having(9, 4, all), all}, {having(12, 5, 0), 0}} {
		c.d.Fuse(0)
		tells(t, "no operation left", c.d, c.mask)
		putStays(t, "no operation left", c.d, c.mask, api.OK)
		clearStays(t, "no operation left", c.d, 64, c.mask, api.OK)
		sample.Broken(c.d)
		for range 2 {
			tells(t, "broken", c.d, 0)
			for _, mask := range []uint64{0, 1, 9, c.mask, ^c.mask, all} {
				putStays(t, "broken", c.d, mask, api.ErrDown)
			}
			for _, e := range append([]int{0, 1, 3, 63}, sample.NoExtents()...) {
				clearStays(t, "broken", c.d, e, 0, api.ErrDown)
			}
			c.d.Fuse(9)
		}
		c.d.Crash(0)
		tells(t, "behind the crash", c.d, c.mask)
		putStays(t, "behind the crash", c.d, c.mask, api.OK)
		clears(t, "behind the crash", c.d, 3)
		puts(t, "behind the crash", c.d, ^c.mask)
	}
}

// breaks: a change with k operations left is a Write, and then a Flush, as far as they can be done; a Clear tells what is left only if both were.
func breaks(t *testing.T, d *disk.Disk, k int, c change) {
	t.Helper()
	_, has := latest(d)
	want, left := d.Copy(), c.aim(has)
	d.Fuse(k)
	want.Fuse(k)
	wantE := sample.RingPut(want, 6, 2, left)
	if k < 2 {
		left = 0
	}
	got, err := c.do(d)
	if got != left || err != wantE || (err == api.ErrDown) != (k < 2) || !sample.Alike(d, want) {
		t.Errorf("behind %#x, with %d operations left: %v: %#x, %v, want %#x, %v; Broken %v, Cached %v, Ops %d", has, k, c, got, err, left, wantE, d.Broken(), d.Cached(), d.Ops())
	}
	// Of a broken disk that is 0, too.
	tells(t, "behind such a change", d, left)
	if k >= 2 {
		return
	}
	for _, mask := range []uint64{c.aim(has), has, 0} {
		putStays(t, "broken", d, mask, api.ErrDown)
	}
	for _, e := range []int{0, 1, 63, 64} {
		clearStays(t, "broken", d, e, 0, api.ErrDown)
	}
}

func TestP11_1TheDiskBreaks(t *testing.T) {
	for k := range 4 {
		for _, mask := range []uint64{1, 2, 1 << 63, all} {
			breaks(t, sample.Disk(8), k, put(mask))
		}
		for n := uint32(1); n < 6; n++ {
			size := 8 + int(n)%3
			for _, mask := range []uint64{0, 1, 2, 1 << 63, all} {
				breaks(t, having(size, n, 5), k, put(mask))
			}
			for _, e := range []int{0, 1, 62, 63} {
				for _, others := range []uint64{0, 1 << 32, all} {
					breaks(t, having(size, n, others|1<<e), k, clearOf(e))
				}
			}
		}
	}
}

// The disk is broken ahead of all that it may hold or lack; the same mask ahead of what the slots refuse.
func TestP11_1ErrorsInOrder(t *testing.T) {
	for size := 1; size < 8; size++ {
		d := sample.Disk(size)
		putStays(t, "too small, the same mask", d, 0, api.OK)
		putStays(t, "too small", d, 7, api.ErrArg)
		clearStays(t, "too small", d, 0, 0, api.OK)
		sample.Broken(d)
		putStays(t, "too small, broken", d, 7, api.ErrDown)
		putStays(t, "too small, broken, the same mask", d, 0, api.ErrDown)
		clearStays(t, "too small, broken", d, 0, 0, api.ErrDown)
		clearStays(t, "too small, broken, no extent", d, -1, 0, api.ErrDown)
	}
	d := having(8, greatest, 7)
	d.Fuse(0)
	putStays(t, "no number, no operation left", d, 9, api.ErrRange)
	clearStays(t, "no number, no operation left", d, 0, 0, api.ErrRange)
	putStays(t, "no number, no operation left, the same mask", d, 7, api.OK)
	clearStays(t, "no number, no operation left, not in the set", d, 3, 7, api.OK)
	sample.Broken(d)
	putStays(t, "no number, broken", d, 9, api.ErrDown)
	putStays(t, "no number, broken, the same mask", d, 7, api.ErrDown)
	putStays(t, "no number, broken, no extent", d, 0, api.ErrDown)
	clearStays(t, "no number, broken", d, 0, 0, api.ErrDown)
	clearStays(t, "no number, broken, not in the set", d, 3, 0, api.ErrDown)
	d.Crash(0)
	putStays(t, "no number, behind a crash", d, 9, api.ErrRange)
	clearStays(t, "no number, behind a crash", d, 2, 0, api.ErrRange)
}

func TestR5ADiskThatNoCallMade(t *testing.T) {
	for _, d := range []*disk.Disk{nil, {}, new(disk.Disk)} {
		// Twice: no call makes it.
		for range 2 {
			if mask := dirty.Get(d); mask != 0 {
				t.Errorf("Get: %#x, want 0", mask)
			}
			for _, mask := range []uint64{0, 1, 6, 1 << 63, all} {
				if err := dirty.Put(d, mask); err != api.ErrMade {
					t.Errorf("Put(%#x): %v, want %v", mask, err, api.ErrMade)
				}
			}
			for _, e := range append([]int{0, 1, 63}, sample.NoExtents()...) {
				if left, err := dirty.Clear(d, e); left != 0 || err != api.ErrMade {
					t.Errorf("Clear(%d): %#x, %v, want 0, %v", e, left, err, api.ErrMade)
				}
			}
			d.Fuse(0)
			d.Crash(all)
		}
		if d.Made() || d != nil && fmt.Sprint(*d) != fmt.Sprint(disk.Disk{}) {
			t.Errorf("a Disk that no call made became %v", d)
		}
	}
}

// What the bitmap tells hangs on its disk alone: disks that are asked in turn don't know of each other.
func TestR4DisksGoTheirOwnWays(t *testing.T) {
	one, other := sample.Disk(8), sample.Disk(8)
	for i := range uint64(20) {
		puts(t, "one", one, i/2)
		puts(t, "the other", other, 101+2*i)
		third := one.Copy()
		puts(t, "a copy", third, 100+i)
		clears(t, "a copy", third, 6)
		tells(t, "the other", other, 101+2*i)
		clears(t, "the other", other, 0)
		tells(t, "one", one, i/2)
	}
}

// orders: the extents of a set, rising, falling, and by no pattern.
func orders(mask uint64) [][]int {
	rising := sample.Members(mask)
	falling, mixed := slices.Clone(rising), slices.Clone(rising)
	slices.Reverse(falling)
	slices.SortFunc(mixed, func(a, b int) int { return (a*37+11)%67 - (b*37+11)%67 })
	return [][]int{rising, falling, mixed}
}

// Each one that is cleared is gone, those that were not yet are left, and each costs its two operations.
func TestP11_2ClearedOneByOne(t *testing.T) {
	for _, mask := range append(sample.Words()[:10], append(sample.Words()[130:150], 1, 6, 1<<63, 1<<63+1, all)...) {
		for _, order := range orders(mask) {
			d := sample.Disk(8)
			puts(t, "the set", d, mask)
			left, ops := mask, d.Ops()
			for i, e := range order {
				left -= 1 << e
				if got, err := dirty.Clear(d, e); got != left || err != api.OK || d.Ops() != ops+2*(i+1) {
					t.Errorf("Clear(%d), number %d of %#x: %#x, %v, want %#x; %d operations", e, i+1, mask, got, err, left, d.Ops()-ops)
				}
				tells(t, "one by one", d, left)
				d.Crash(uint64(i % 2))
				tells(t, "one by one, behind a crash", d, left)
			}
			tells(t, "all of them", d, 0)
		}
	}
}
