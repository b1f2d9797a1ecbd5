package actlog_test

import (
	"fmt"
	"math"
	"testing"

	"twain/actlog"
	"twain/api"
	"twain/disk"
	"twain/sample"
	"twain/seal"
	"twain/slots"
)

const (
	all      = math.MaxUint64
	greatest = math.MaxUint32
)

// latest: the number and the mask that the log holds, by the words of chapters 7 and 10, of a disk that works and has room for it.
func latest(d *disk.Disk) (uint32, uint64) { return sample.RingLatest(d, 2, 4) }

// tells: are those the number of writes and the mask, and is the disk as it was?
func tells(t *testing.T, what string, d *disk.Disk, writes uint32, mask uint64) {
	t.Helper()
	was := d.Copy()
	if n, m := actlog.Writes(d), actlog.Get(d); n != writes || m != mask {
		t.Errorf("%s: Writes %d, Get %#x, want %d, %#x", what, n, m, writes, mask)
	}
	if !sample.Alike(d, was) {
		t.Errorf("%s: Get or Writes changed the disk", what)
	}
}

// writes: is the mask put, by a Write of just the next record, and a Flush?
func writes(t *testing.T, what string, d *disk.Disk, mask uint64) {
	t.Helper()
	want := d.Copy()
	n, _ := latest(d)
	sample.RingPut(want, 2, 4, mask)
	if e := actlog.Put(d, mask); e != api.OK {
		t.Errorf("%s: Put(%#x): %v", what, mask, e)
	}
	if !sample.Alike(d, want) {
		t.Errorf("%s: Put(%#x) is not a Write of record %d, and a Flush: Cached %v, Ops %d, want %d", what, mask, n+1, d.Cached(), d.Ops(), want.Ops())
	}
	tells(t, what+", behind a Put", d, n+1, mask)
}

// answers: does a Put answer that, and is the disk as it was?
func answers(t *testing.T, what string, d *disk.Disk, mask uint64, want api.Errno) {
	t.Helper()
	was := d.Copy()
	if e := actlog.Put(d, mask); e != want {
		t.Errorf("%s: Put(%#x): %v, want %v", what, mask, e, want)
	}
	if !sample.Alike(d, was) {
		t.Errorf("%s: Put(%#x) changed the disk: Cached %v, Ops %d, want %v, %d", what, mask, d.Cached(), d.Ops(), was.Cached(), was.Ops())
	}
}

// puts: is the mask put, if it is another one than the log has? Else nothing is done.
func puts(t *testing.T, what string, d *disk.Disk, mask uint64) {
	t.Helper()
	if n, has := latest(d); has == mask {
		answers(t, what+", the same mask", d, mask, api.OK)
		tells(t, what+", the same mask", d, n, mask)
		return
	}
	writes(t, what, d, mask)
}

// having: a disk of that size whose log has one record, of that number and word.
func having(size int, n uint32, word uint64) *disk.Disk {
	d := sample.Disk(size)
	sample.RingLay(d, 2, 4, n, word)
	return d
}

func TestP10_1Example(t *testing.T) {
	d := sample.Disk(12)
	for range 2 {
		if e := actlog.Put(d, 5); e != api.OK || actlog.Get(d) != 5 || actlog.Writes(d) != 1 || d.Ops() != 2 {
			t.Errorf("Put 5: %v, Get %d, Writes %d, Ops %d", e, actlog.Get(d), actlog.Writes(d), d.Ops())
		}
	}
}

// A fresh log has no extent: it need not be written for that.
func TestP10_1AFreshDisk(t *testing.T) {
	for _, size := range []int{6, 7, 8, 9, 12, 24, api.MaxDisk} {
		d := sample.Disk(size)
		what := fmt.Sprintf("of %d sectors", size)
		tells(t, what, d, 0, 0)
		answers(t, what, d, 0, api.OK)
		tells(t, what, d, 0, 0)
		d.Crash(all)
		tells(t, what+", behind a crash", d, 0, 0)
		writes(t, what, d, 1)
		answers(t, what, d, 1, api.OK)
		writes(t, what, d, 0)
		answers(t, what, d, 0, api.OK)
		tells(t, what, d, 2, 0)
	}
}

// Six sectors are enough, and of more the others are as they were.
func TestP10_1Runs(t *testing.T) {
	for _, size := range []int{6, 7, 8, 12, api.MaxDisk} {
		d := sample.Disk(size)
		what := fmt.Sprintf("of %d sectors", size)
		for at := range size {
			if at < 2 || at >= 6 {
				d.Write(at, api.Sector{byte(at), byte(at >> 8), 7})
			}
		}
		for i, mask := range sample.Words()[:60] {
			puts(t, what, d, mask)
			if i%3 == 0 {
				d.Write(i%2, api.Sector{byte(i)})
			}
			puts(t, what, d, mask)
			puts(t, what, d, mask&0xff)
		}
	}
}

// The number counts what was written: round the ring, and over.
func TestP10_1WritesCount(t *testing.T) {
	d := sample.Disk(8)
	for i := range uint32(50) {
		for range 3 {
			puts(t, "counted", d, uint64(i%2+1))
			if n := actlog.Writes(d); n != i+1 || d.Ops() != 2*int(n) {
				t.Errorf("%d masks put: Writes %d, Ops %d", i+1, n, d.Ops())
			}
		}
		if got := d.Durable(2 + int(i+1)%4); got != seal.Record(i+1, uint64(i%2+1)) {
			t.Errorf("%d masks put: sector %d has %v", i+1, 2+(i+1)%4, got)
		}
	}
}

// Each mask behind each other one: those that differ in one bit, be it the highest, are not the same.
func TestP10_1EachMaskBehindEachOther(t *testing.T) {
	masks := []uint64{0, 1, 2, 3, 5, 1 << 31, 1 << 32, 1<<32 + 1, greatest, 1 << 63, 1<<63 + 1, all - 1, all >> 1, all}
	d := sample.Disk(8)
	for _, one := range masks {
		for _, other := range masks {
			puts(t, "one", d, one)
			puts(t, "the other", d, other)
		}
	}
}

// The same mask costs no operation: what is cached stays so, and a fuse does not burn down.
func TestP10_1TheSameMask(t *testing.T) {
	for _, mask := range sample.Words()[:140] {
		d := having(8, 6, mask)
		d.Write(0, api.Sector{1})
		d.Write(7, api.Sector{2})
		for k := range 3 {
			d.Fuse(k)
			answers(t, "the same mask", d, mask, api.OK)
			tells(t, "the same mask", d, 6, mask)
		}
		d.Crash(0)
		if d.Durable(0) != (api.Sector{}) || d.Durable(7) != (api.Sector{}) {
			t.Errorf("Put(%#x) of the same mask flushed the disk", mask)
		}
	}
}

// The record with the greatest number tells the mask, not the one that was laid last, or stands last, or has the greatest word.
func TestP10_1TheGreatestNumber(t *testing.T) {
	for _, c := range []struct {
		numbers [4]uint32
		words   [4]uint64
		writes  uint32
		mask    uint64
	}{
		{[4]uint32{4, 5, 6, 7}, [4]uint64{40, 50, 60, 70}, 7, 70},
		{[4]uint32{8, 5, 6, 7}, [4]uint64{0, 50, 60, 70}, 8, 0},
		{[4]uint32{8, 9, 6, 7}, [4]uint64{all, 1, all, all}, 9, 1},
		{[4]uint32{8, 9, 10, 7}, [4]uint64{1, 1, 2, 1}, 10, 2},
		{[4]uint32{0, 1, 2, 3}, [4]uint64{9, 1, 2, 3}, 3, 3},
		{[4]uint32{0, 1, 0, 0}, [4]uint64{9, 1, 9, 9}, 1, 1},
		{[4]uint32{100, 1, 1002, 7}, [4]uint64{1, 2, 3, 4}, 1002, 3},
		{[4]uint32{1 << 31, 1<<31 - 3, 2, 3}, [4]uint64{1, 2, 3, 4}, 1 << 31, 1},
		{[4]uint32{4, 1, greatest - 5, 3}, [4]uint64{1, 2, 3, 4}, greatest - 5, 3},
	} {
		d := sample.Disk(8)
		for i := range 4 {
			sample.Lay(d, 2+i, seal.Record(c.numbers[i], c.words[i]))
		}
		tells(t, fmt.Sprint(c), d, c.writes, c.mask)
		answers(t, fmt.Sprint(c), d, c.mask, api.OK)
		writes(t, fmt.Sprint(c), d, c.mask+1)
		writes(t, fmt.Sprint(c), d, c.mask)
	}
}

// What stands beside the ring, or in another one of its sectors, or is no record, tells nothing, and a Put lays the first record over it.
func TestP10_1NoRecordOfTheLog(t *testing.T) {
	for _, n := range []uint32{1, 2, 3, 4, 100, 101, greatest - 1, greatest} {
		d := sample.Disk(8)
		home := sample.RingPlace(n, 2, 4)
		for at := range 8 {
			if at != home {
				sample.Lay(d, at, seal.Record(n, 77))
			}
		}
		tells(t, "records elsewhere", d, 0, 0)
		good := seal.Record(n, 77)
		for place := range api.SectorSize {
			sample.Lay(d, home, api.Sector(sample.Turned(good[:], place, 1)))
			tells(t, "a bit was turned", d, 0, 0)
		}
		answers(t, "no record", d, 0, api.OK)
		writes(t, "no record", d, 77)
		writes(t, "no record", d, 0)
	}
	d := having(8, 0, 77)
	tells(t, "record 0", d, 0, 0)
	answers(t, "record 0", d, 0, api.OK)
	writes(t, "record 0", d, 77)
}

// The superblock ahead of the log and the bitmap behind it are rings of their own.
func TestP10_1RingsSideBySide(t *testing.T) {
	d := sample.Disk(8)
	for i := range uint64(30) {
		slots.Put(d, 0, 2, 100+i)
		slots.Put(d, 6, 2, 200+i)
		puts(t, "between two rings", d, i+1)
		tells(t, "between two rings", d, uint32(i+1), i+1)
		for base, word := range map[int]uint64{0: 100 + i, 6: 200 + i} {
			if n, got := slots.Latest(d, base, 2); n != uint32(i+1) || got != word {
				t.Errorf("the ring at %d: %d, %d, want %d, %d", base, n, got, i+1, word)
			}
		}
	}
}

// What is cached is the latest, until a crash takes it.
func TestP10_1Cached(t *testing.T) {
	d := having(8, 4, 10)
	d.Write(3, seal.Record(5, 20))
	tells(t, "cached", d, 5, 20)
	answers(t, "cached", d, 20, api.OK)
	writes(t, "cached", d.Copy(), 10)
	spared := d.Copy()
	spared.Crash(1)
	tells(t, "spared", spared, 5, 20)
	answers(t, "spared", spared, 20, api.OK)
	d.Crash(0)
	tells(t, "taken", d, 4, 10)
	writes(t, "taken", d, 20)
}

// Whatever the sectors hold, and whenever the disk breaks, a Put of another mask is the slots' Put, with its error, and one of the same mask is nothing.
func TestP10_1WhateverTheRingHolds(t *testing.T) {
	words := sample.Words()[130:]
	for i := 0; i+5 <= len(words); i += 5 {
		d := sample.Disk(6 + i%4)
		for at := range 4 {
			d.Write(2+at, sample.RingSector(words[i+at], at, 4))
			if words[i+at]>>60&1 == 0 {
				d.Flush()
			}
		}
		n, mask := latest(d)
		tells(t, "sectors of chance", d, n, mask)
		d.Fuse(int(words[i+4]%5) - 1)
		answers(t, "sectors of chance, the same mask", d, mask, api.OK)
		want := d.Copy()
		wantE := slots.Put(want, 2, 4, words[i+4]|1)
		if e := actlog.Put(d, words[i+4]|1); e != wantE || !sample.Alike(d, want) {
			t.Errorf("behind record %d with %#x: Put(%#x): %v, want %v", n, mask, words[i+4]|1, e, wantE)
		}
	}
}

func TestP10_1TheLastRecords(t *testing.T) {
	for _, size := range []int{6, 8} {
		d := having(size, greatest-2, 40)
		tells(t, "two are left", d, greatest-2, 40)
		writes(t, "two are left", d, 41)
		writes(t, "one is left", d, 42)
		for range 3 {
			for _, mask := range []uint64{0, 1, 40, 41, 43, all} {
				answers(t, "none is left", d, mask, api.ErrRange)
			}
			answers(t, "none is left, the same mask", d, 42, api.OK)
			tells(t, "none is left", d, greatest, 42)
			d.Crash(all)
		}
	}
	for _, mask := range []uint64{0, 1, greatest, 1 << 32, all - 1, all} {
		d := having(8, greatest, mask)
		tells(t, "the greatest number", d, greatest, mask)
		answers(t, "the greatest number", d, mask, api.OK)
		answers(t, "the greatest number", d, ^mask, api.ErrRange)
		tells(t, "the greatest number, refused", d, greatest, mask)
	}
}

// A disk that lacks one of the ring's sectors, or more, has no log, whatever stands there: Get is 0, so that only a Put of 0 has nothing to do.
func TestP10_1TooSmall(t *testing.T) {
	for size := 1; size < 6; size++ {
		for _, word := range []uint64{0, 7, all} {
			d := sample.Disk(size)
			for at := range size {
				d.Write(at, seal.Record(uint32(102+at), word)) // Record 104 would stand in sector 2.
			}
			what := fmt.Sprintf("of %d sectors", size)
			for _, k := range []int{-1, 0, 1} {
				d.Fuse(k)
				tells(t, what, d, 0, 0)
				answers(t, what, d, 0, api.OK)
				for _, mask := range []uint64{1, 7, all} {
					answers(t, what, d, mask, api.ErrArg)
				}
			}
			d.Crash(all)
			answers(t, what+", behind a crash", d, 7, api.ErrArg)
			tells(t, what+", behind a crash", d, 0, 0)
		}
	}
}

// Of a broken disk nothing can be read: it is refused, whatever it held, and whatever 0 may be there.
func TestP10_1ABrokenDisk(t *testing.T) {
	for _, c := range []struct {
		d      *disk.Disk
		writes uint32
		mask   uint64
	}{{sample.Disk(6), 0, 0}, {sample.Disk(8), 0, 0}, {having(6, 3, 9), 3, 9}, {having(8, 4, all), 4, all}, {having(8, 5, 0), 5, 0}} {
		c.d.Fuse(0)
		tells(t, "no operation left", c.d, c.writes, c.mask)
		answers(t, "no operation left", c.d, c.mask, api.OK)
		sample.Broken(c.d)
		for range 2 {
			tells(t, "broken", c.d, 0, 0)
			for _, mask := range []uint64{0, 1, 9, c.mask, ^c.mask, all} {
				answers(t, "broken", c.d, mask, api.ErrDown)
			}
			c.d.Fuse(9)
		}
		c.d.Crash(0)
		tells(t, "behind the crash", c.d, c.writes, c.mask)
		answers(t, "behind the crash", c.d, c.mask, api.OK)
		writes(t, "behind the crash", c.d, ^c.mask)
	}
}

// breaks: a Put with k operations left is a Write, and then a Flush, as far as they can be done.
func breaks(t *testing.T, d *disk.Disk, k int, mask uint64) {
	t.Helper()
	want := d.Copy()
	d.Fuse(k)
	want.Fuse(k)
	wantE := sample.RingPut(want, 2, 4, mask)
	if e := actlog.Put(d, mask); e != wantE || (e == api.ErrDown) != (k < 2) || !sample.Alike(d, want) {
		t.Errorf("with %d operations left: Put(%#x): %v, want %v; Broken %v, Cached %v, Ops %d", k, mask, e, wantE, d.Broken(), d.Cached(), d.Ops())
	}
}

func TestP10_1TheDiskBreaks(t *testing.T) {
	for _, mask := range []uint64{1, 2, 1 << 63, all} {
		for k := range 4 {
			for n := range uint32(6) {
				d := sample.Disk(6 + int(n)%3)
				if n > 0 {
					d = having(6+int(n)%3, n, 5)
				}
				breaks(t, d, k, mask)
				if k < 2 {
					tells(t, "broken", d, 0, 0)
					answers(t, "broken, the mask again", d, mask, api.ErrDown)
					answers(t, "broken, the mask ahead", d, 5, api.ErrDown)
					answers(t, "broken, no extent", d, 0, api.ErrDown)
				} else {
					tells(t, "not broken", d, n+1, mask)
				}
			}
		}
	}
}

// The disk is broken ahead of all that it may hold or lack; the same mask ahead of what the slots refuse.
func TestP10_1ErrorsInOrder(t *testing.T) {
	for size := 1; size < 6; size++ {
		d := sample.Disk(size)
		answers(t, "too small, the same mask", d, 0, api.OK)
		answers(t, "too small", d, 7, api.ErrArg)
		sample.Broken(d)
		answers(t, "too small, broken", d, 7, api.ErrDown)
		answers(t, "too small, broken, the same mask", d, 0, api.ErrDown)
	}
	d := having(6, greatest, 7)
	d.Fuse(0)
	answers(t, "no number, no operation left", d, 9, api.ErrRange)
	answers(t, "no number, no operation left, the same mask", d, 7, api.OK)
	sample.Broken(d)
	answers(t, "no number, broken", d, 9, api.ErrDown)
	answers(t, "no number, broken, the same mask", d, 7, api.ErrDown)
	answers(t, "no number, broken, no extent", d, 0, api.ErrDown)
	d.Crash(0)
	answers(t, "no number, behind a crash", d, 9, api.ErrRange)
}

func TestR5ADiskThatNoCallMade(t *testing.T) {
	for _, d := range []*disk.Disk{nil, {}, new(disk.Disk)} {
		// Twice: no call makes it.
		for range 2 {
			if n, mask := actlog.Writes(d), actlog.Get(d); n != 0 || mask != 0 {
				t.Errorf("Writes %d, Get %#x, want 0, 0", n, mask)
			}
			for _, mask := range []uint64{0, 1, 5, 1 << 63, all} {
				if e := actlog.Put(d, mask); e != api.ErrMade {
					t.Errorf("Put(%#x): %v, want %v", mask, e, api.ErrMade)
				}
			}
			d.Fuse(0)
			d.Crash(all)
		}
		if d.Made() || d != nil && fmt.Sprint(*d) != fmt.Sprint(disk.Disk{}) {
			t.Errorf("a Disk that no call made became %v", d)
		}
	}
}

// What the log tells hangs on its disk alone: disks that are asked in turn don't know of each other.
func TestR4DisksGoTheirOwnWays(t *testing.T) {
	one, other := sample.Disk(8), sample.Disk(8)
	for i := range uint64(20) {
		puts(t, "one", one, i/2)
		puts(t, "the other", other, 100+i)
		third := one.Copy()
		puts(t, "a copy", third, 100+i)
		tells(t, "the other", other, uint32(i+1), 100+i)
		tells(t, "one", one, uint32(i/2), i/2)
	}
}
