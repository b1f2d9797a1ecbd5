package super_test

import (
	"fmt"
	"math"
	"testing"

	"twain/api"
	"twain/disk"
	"twain/sample"
	"twain/seal"
	"twain/slots"
	"twain/super"
)

const (
	all      = math.MaxUint64
	greatest = math.MaxUint32
)

// tells: is that the boot, and is the disk as it was?
func tells(t *testing.T, what string, d *disk.Disk, want uint32) {
	t.Helper()
	was := d.Copy()
	if got := super.Boot(d); got != want {
		t.Errorf("%s: Boot: %d, want %d", what, got, want)
	}
	if !sample.Alike(d, was) {
		t.Errorf("%s: Boot changed the disk", what)
	}
}

// starts: is that the next boot, is Boot the same behind it, and was just the record of it written and flushed?
func starts(t *testing.T, what string, d *disk.Disk, want uint32) {
	t.Helper()
	plainly := d.Copy()
	n, _ := sample.RingLatest(d, 0, 2)
	sample.RingPut(plainly, 0, 2, uint64(want))
	if got, e := super.Next(d); got != want || e != api.OK {
		t.Errorf("%s: Next: %d, %v, want %d", what, got, e, want)
	}
	tells(t, what+", behind Next", d, want)
	if !sample.Alike(d, plainly) {
		t.Errorf("%s: Next is not a Write of record %d, with %d, and a Flush: Cached %v, Ops %d, want %d", what, n+1, want, d.Cached(), d.Ops(), plainly.Ops())
	}
}

// refuses: is that the error, with no number beside it, and is the disk as it was?
func refuses(t *testing.T, what string, d *disk.Disk, want api.Errno) {
	t.Helper()
	was := d.Copy()
	if got, e := super.Next(d); got != 0 || e != want {
		t.Errorf("%s: Next: %d, %v, want 0, %v", what, got, e, want)
	}
	if !sample.Alike(d, was) {
		t.Errorf("%s: Next was refused, and changed the disk", what)
	}
}

// having: a disk of that size whose superblock has one record, of that number and word.
func having(size int, n uint32, word uint64) *disk.Disk {
	d := sample.Disk(size)
	sample.Lay(d, int(n%2), seal.Record(n, word))
	return d
}

func TestP8_1Example(t *testing.T) {
	d := sample.Disk(8)
	for want := uint32(1); want <= 2; want++ {
		if got, e := super.Next(d); got != want || e != api.OK {
			t.Errorf("Next: %d, %v, want %d", got, e, want)
		}
	}
}

func TestP8_1AFreshDisk(t *testing.T) {
	for _, size := range []int{2, 3, 8, 9, 24, api.MaxDisk} {
		d := sample.Disk(size)
		what := fmt.Sprintf("of %d sectors", size)
		tells(t, what, d, 0)
		d.Crash(all)
		tells(t, what+", behind a crash", d, 0)
		starts(t, what, d, 1)
	}
}

// Two sectors are enough, and of more the others are as they were.
func TestP8_1Runs(t *testing.T) {
	for _, size := range []int{2, 3, 8, 9, 24, api.MaxDisk} {
		d := sample.Disk(size)
		for at := 2; at < size; at++ {
			d.Write(at, api.Sector{byte(at), byte(at >> 8), 7})
		}
		for n := uint32(1); n <= 40; n++ {
			starts(t, fmt.Sprintf("of %d sectors", size), d, n)
			if n%3 == 0 && size > 2 {
				d.Write(size-1, api.Sector{byte(n)})
			}
		}
	}
}

// The lowest 32 bits count, and one more than these is what is put.
func TestP8_1TheLowestBits(t *testing.T) {
	for i, word := range append(sample.Words(), 1<<32, 1<<32+5, 5<<32+1<<31, 1<<32+greatest, 1<<32+greatest-1, all-greatest, all-1) {
		n := uint32(1 + i%5)
		d := having(2+i%7, n, word)
		what := fmt.Sprintf("record %d, word %#x", n, word)
		tells(t, what, d, uint32(word&greatest))
		if word&greatest == greatest {
			refuses(t, what, d, api.ErrRange)
			continue
		}
		starts(t, what, d, uint32(word&greatest)+1)
	}
}

// A record's own number is no boot: it says only which word is the latest.
func TestP8_1TheRecordsNumber(t *testing.T) {
	for _, c := range []struct {
		even, odd     uint32
		first, second uint64
		boot          uint32
	}{
		{2, 3, 40, 7, 7}, {4, 3, 40, 7, 40}, {4, 3, 0, 7, 0}, {2, 3, 7, 0, 0}, {0, 1, 40, 7, 7},
		{1000, 1, 1, 500, 1}, {2, greatest - 2, 9, 3, 3}, {greatest - 3, greatest - 4, 9, 3, 9}, {6, 7, all, 1 << 32, 0},
	} {
		d := sample.Disk(8)
		sample.Lay(d, 0, seal.Record(c.even, c.first))
		sample.Lay(d, 1, seal.Record(c.odd, c.second))
		tells(t, fmt.Sprint(c), d, c.boot)
		starts(t, fmt.Sprint(c), d, c.boot+1)
		starts(t, fmt.Sprint(c), d, c.boot+2)
	}
}

// What stands beside the ring, or in the other one of its sectors, or is no record, tells no boot.
func TestP8_1NoRecordOfTheSuperblock(t *testing.T) {
	for _, n := range []uint32{1, 2, 3, 4, 100, 101, greatest - 1, greatest} {
		d := sample.Disk(8)
		for at := 2; at < 8; at++ {
			sample.Lay(d, at, seal.Record(n, 77))
		}
		sample.Lay(d, int((n+1)%2), seal.Record(n, 77))
		tells(t, "records elsewhere", d, 0)
		good := seal.Record(n, 77)
		sample.Lay(d, int(n%2), api.Sector(sample.Turned(good[:], int(n%16), 1)))
		tells(t, "a bit was turned", d, 0)
		starts(t, "no record", d, 1)
		starts(t, "no record", d, 2)
	}
	tells(t, "record 0", having(8, 0, 77), 0)
	starts(t, "record 0", having(8, 0, 77), 1)
}

// What is cached is the latest, until a crash takes it.
func TestP8_1Cached(t *testing.T) {
	d := having(8, 4, 10)
	d.Write(1, seal.Record(5, 20))
	tells(t, "cached", d, 20)
	starts(t, "cached", d.Copy(), 21)
	spared := d.Copy()
	spared.Crash(1)
	starts(t, "spared", spared, 21)
	d.Crash(0)
	starts(t, "taken", d, 11)
}

// Whatever the sectors hold, Next is the slots' Put of one more, with its error.
func TestP8_1NextIsAPut(t *testing.T) {
	words := sample.Words()
	for i := 0; i+3 <= len(words); i += 3 {
		d := sample.Disk(1 + i%4)
		for at := range 2 {
			d.Write(at, seal.Record(uint32(words[i+at]>>20)&^1+uint32(at), words[i+1-at]))
		}
		d.Fuse(int(words[i+2]%6) - 1)
		want := d.Copy()
		boot := super.Boot(d)
		if boot == greatest {
			refuses(t, "the greatest boot", d, api.ErrRange)
			continue
		}
		wantE := slots.Put(want, 0, 2, uint64(boot)+1)
		wantBoot := boot + 1
		if wantE != api.OK {
			wantBoot = 0
		}
		if got, e := super.Next(d); got != wantBoot || e != wantE || !sample.Alike(d, want) {
			t.Errorf("behind boot %d: Next: %d, %v, want %d, %v", boot, got, e, wantBoot, wantE)
		}
	}
}

func TestP8_1TheLastBoots(t *testing.T) {
	for _, high := range []uint64{0, 1 << 32, all - greatest} {
		d := having(2, 6, high+greatest-2)
		starts(t, "two are left", d, greatest-1)
		starts(t, "one is left", d, greatest)
		for range 3 {
			refuses(t, "none is left", d, api.ErrRange)
			tells(t, "none is left", d, greatest)
			d.Crash(all)
		}
		d = having(8, 7, high+greatest-1)
		tells(t, "at the last but one", d, greatest-1)
		starts(t, "at the last but one", d, greatest)
		d = having(8, 7, high+greatest)
		tells(t, "at the last", d, greatest)
		refuses(t, "at the last", d, api.ErrRange)
		tells(t, "at the last, refused", d, greatest)
	}
}

// The slots have no number left, though there are boots.
func TestP8_1TheLastRecords(t *testing.T) {
	d := having(2, greatest-2, 40)
	starts(t, "two are left", d, 41)
	starts(t, "one is left", d, 42)
	for range 3 {
		refuses(t, "none is left", d, api.ErrRange)
		tells(t, "none is left", d, 42)
		d.Crash(all)
	}
	for _, word := range []uint64{0, 1, greatest - 1, 1 << 32, all - 1} {
		d := having(8, greatest, word)
		tells(t, "the greatest number", d, uint32(word&greatest))
		refuses(t, "the greatest number", d, api.ErrRange)
		tells(t, "the greatest number, refused", d, uint32(word&greatest))
	}
}

func TestP8_1OneSector(t *testing.T) {
	for _, s := range []api.Sector{{}, {7}, seal.Record(2, 5), seal.Record(2, greatest), seal.Record(1, 5), seal.Record(greatest-1, 5)} {
		d := sample.Disk(1)
		d.Write(0, s)
		tells(t, "of one sector", d, 0)
		refuses(t, "of one sector", d, api.ErrArg)
		d.Fuse(0)
		refuses(t, "of one sector, no operation left", d, api.ErrArg)
		refuses(t, "of one sector, broken", sample.Broken(d), api.ErrArg)
		tells(t, "of one sector, broken", d, 0)
		d.Crash(all)
		refuses(t, "of one sector, behind a crash", d, api.ErrArg)
	}
}

func TestP8_1ABrokenDisk(t *testing.T) {
	for _, d := range []*disk.Disk{sample.Disk(2), sample.Disk(8), having(2, 3, 3), having(8, 4, all-1)} {
		boot := super.Boot(d)
		d.Fuse(0)
		tells(t, "no operation left", d, boot)
		sample.Broken(d)
		for range 2 {
			tells(t, "broken", d, 0)
			refuses(t, "broken", d, api.ErrDown)
			d.Fuse(9)
		}
		d.Crash(0)
		tells(t, "behind the crash", d, boot)
		starts(t, "behind the crash", d, boot+1)
	}
}

func TestP8_1TheDiskBreaks(t *testing.T) {
	for _, boot := range []uint32{0, 1, 2, 3, greatest - 1} {
		for k := range 4 {
			d := having(4, 3, uint64(boot))
			want := d.Copy()
			d.Fuse(k)
			want.Fuse(k)
			wantBoot, wantE := boot+1, want.Write(0, seal.Record(4, uint64(boot)+1))
			if wantE == api.OK {
				wantE = want.Flush()
			}
			if k < 2 {
				wantBoot = 0
			}
			if got, e := super.Next(d); got != wantBoot || e != wantE || (e == api.ErrDown) != (k < 2) || !sample.Alike(d, want) {
				t.Errorf("behind boot %d, with %d operations left: Next: %d, %v, want %d, %v; Broken %v, Cached %v, Ops %d", boot, k, got, e, wantBoot, wantE, d.Broken(), d.Cached(), d.Ops())
			}
			tells(t, "behind such a Next", d, wantBoot)
		}
	}
}

func TestP8_1ErrorsInOrder(t *testing.T) {
	lastBoot, lastRecord, both := having(2, 7, greatest), having(2, greatest, 7), having(2, greatest, greatest)
	for what, d := range map[string]*disk.Disk{"no boot left": lastBoot, "no record left": lastRecord, "neither left": both} {
		refuses(t, what, d, api.ErrRange)
		d.Fuse(0)
		refuses(t, what+", no operation left", d, api.ErrRange)
		// Of a broken disk the ring has no latest word: its Boot is 0.
		refuses(t, what+", broken", sample.Broken(d), api.ErrDown)
		d.Crash(0)
		refuses(t, what+", behind a crash", d, api.ErrRange)
	}
	// One sector is no ring: what stands there is no boot, be it the greatest.
	one := sample.Disk(1)
	sample.Lay(one, 0, seal.Record(greatest-1, greatest))
	refuses(t, "one sector, with the greatest boot", one, api.ErrArg)
	refuses(t, "one sector, with the greatest boot, broken", sample.Broken(one), api.ErrArg)
}

func TestR5ADiskThatNoCallMade(t *testing.T) {
	for _, d := range []*disk.Disk{nil, {}, new(disk.Disk)} {
		// Twice: no call makes it.
		for range 2 {
			if got := super.Boot(d); got != 0 {
				t.Errorf("Boot: %d, want 0", got)
			}
			if got, e := super.Next(d); got != 0 || e != api.ErrMade {
				t.Errorf("Next: %d, %v, want 0, %v", got, e, api.ErrMade)
			}
			d.Fuse(0)
			d.Crash(all)
		}
		if d.Made() || d != nil && fmt.Sprint(*d) != fmt.Sprint(disk.Disk{}) {
			t.Errorf("a Disk that no call made became %v", d)
		}
	}
}
