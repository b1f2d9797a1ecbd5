package meta_test

import (
	"fmt"
	"testing"

	"twain/actlog"
	"twain/api"
	"twain/dirty"
	"twain/disk"
	"twain/meta"
	"twain/sample"
	"twain/seal"
	"twain/super"
)

// masks: sets that are tried behind each other: none, one, few, and all 64 extents.
func masks() []uint64 {
	return []uint64{0, 1, 3, 4, 7, 1 << 31, 1 << 32, greatest, 1 << 63, 1<<63 + 1, all - 1, all >> 1, all}
}

func TestP13_1Example(t *testing.T) {
	d := sample.Disk(12)
	if m, err := meta.Start(d); m != (meta.Meta{Boot: 1}) || err != api.OK {
		t.Errorf("Start: %v, %v", m, err)
	}
	actlog.Put(d, 3)
	dirty.Put(d, 4)
	if m := meta.Look(d); m != (meta.Meta{Boot: 1, Hot: 3, Dirty: 4}) || meta.Mine(m) != 7 {
		t.Errorf("Look: %v, Mine %d", m, meta.Mine(m))
	}
	if err := meta.Retire(d, 7); err != api.OK {
		t.Errorf("Retire 7: %v", err)
	}
	if m := meta.Look(d); m != (meta.Meta{Boot: 1, Dirty: 7}) || meta.Mine(m) != 7 {
		t.Errorf("behind Retire 7: %v, Mine %d", m, meta.Mine(m))
	}
}

func TestP13_1Mine(t *testing.T) {
	for _, boot := range []uint32{0, 1, greatest} {
		for _, hot := range masks() {
			for _, unlike := range masks() {
				m := meta.Meta{Boot: boot, Hot: hot, Dirty: unlike}
				if got := meta.Mine(m); got != either(hot, unlike) {
					t.Errorf("Mine of %v: %#x, want %#x", m, got, either(hot, unlike))
				}
			}
		}
	}
	words := sample.Words()
	for i, w := range words {
		m := meta.Meta{Boot: uint32(i), Hot: w, Dirty: words[(i*7+3)%len(words)]}
		if got := meta.Mine(m); got != either(m.Hot, m.Dirty) {
			t.Errorf("Mine of %v: %#x, want %#x", m, got, either(m.Hot, m.Dirty))
		}
	}
}

// A fresh disk tells of no start, and of no extent.
func TestP13_1AFreshDisk(t *testing.T) {
	for _, size := range []int{8, 9, 12, 24, api.MaxDisk} {
		d := sample.Disk(size)
		what := fmt.Sprintf("of %d sectors", size)
		looks(t, what, d, meta.Meta{})
		d.Crash(all)
		looks(t, what+", behind a crash", d, meta.Meta{})
		retireStays(t, what, d, 0, api.OK)
		starts(t, what, d)
		starts(t, what, d)
		retireStays(t, what, d, 0, api.OK)
		looks(t, what, d, meta.Meta{Boot: 2})
	}
}

// Each part is told of its own ring, whatever stands in it.
func TestP13_1WhatTheRingsTell(t *testing.T) {
	words := sample.Words()[130:]
	for i := range words {
		d := sample.Disk(12)
		for k, r := range []ring{superblock, activity, bitmap} {
			for at := range r.sectors {
				d.Write(r.base+at, sample.RingSector(words[(i*8+k*4+at)%len(words)], at, r.sectors))
			}
		}
		m := known(d)
		looks(t, fmt.Sprintf("disk %d", i), d, m)
		if m != (meta.Meta{Boot: super.Boot(d), Hot: actlog.Get(d), Dirty: dirty.Get(d)}) {
			t.Errorf("disk %d: %v is not what the rings tell", i, m)
		}
	}
}

// What is only cached is told, too, and a crash takes it.
func TestP13_1WhatIsCached(t *testing.T) {
	d := having(12, meta.Meta{Boot: 1, Hot: 2, Dirty: 3})
	d.Write(0, seal.Record(6, 10))
	d.Write(5, seal.Record(7, 20))
	d.Write(6, seal.Record(8, 30))
	d.Fuse(0)
	looks(t, "cached", d, meta.Meta{Boot: 10, Hot: 20, Dirty: 30})
	d.Crash(2)
	looks(t, "the log was spared", d, meta.Meta{Boot: 1, Hot: 20, Dirty: 3})
}

// Look is no operation: a disk that has none left does not break by it.
func TestP13_1LookOnADiskWithoutOperations(t *testing.T) {
	d := having(12, meta.Meta{Boot: 1, Hot: 2, Dirty: 3})
	d.Fuse(0)
	for range 3 {
		looks(t, "a fuse of 0", d, meta.Meta{Boot: 1, Hot: 2, Dirty: 3})
	}
	if d.Broken() {
		t.Errorf("Look broke the disk")
	}
}

func TestP13_1TooSmallForTheSuperblock(t *testing.T) {
	d := sample.Disk(1)
	sample.Lay(d, 0, seal.Record(2, 9))
	startStays(t, "of one sector", d, api.ErrArg)
	looks(t, "of one sector", d, meta.Meta{})
	d = sample.Disk(2)
	looks(t, "of two sectors", d, meta.Meta{})
	for range 5 {
		starts(t, "of two sectors", d)
	}
	looks(t, "of two sectors", d, meta.Meta{Boot: 5})
}

// A disk tells of each ring that it has all of, and of no other.
func TestP13_1EachSize(t *testing.T) {
	whole := having(14, meta.Meta{Boot: 41, Hot: 42, Dirty: 43})
	for size := 1; size <= 14; size++ {
		d := sample.Disk(size)
		for at := range size {
			sample.Lay(d, at, whole.Durable(at))
		}
		what := fmt.Sprintf("of %d sectors", size)
		var m meta.Meta
		if size >= 2 {
			m.Boot = 41
		}
		if size >= 6 {
			m.Hot = 42
		}
		if size >= 8 {
			m.Dirty = 43
		}
		looks(t, what, d, m)
		if size >= 2 {
			starts(t, what, d)
			m.Boot++
		}
		looks(t, what, d, m)
	}
}

func TestP13_1TheGreatestBoot(t *testing.T) {
	for _, m := range []meta.Meta{{Boot: greatest}, {Boot: greatest, Hot: 3, Dirty: 4}} {
		d := having(12, m)
		startStays(t, "the greatest boot", d, api.ErrRange)
		looks(t, "the greatest boot", d, m)
		retires(t, "the greatest boot", d, 7)
		startStays(t, "the greatest boot, retired", d, api.ErrRange)
	}
	d := having(8, meta.Meta{Boot: greatest - 1, Hot: 3, Dirty: 4})
	starts(t, "one ahead of the greatest", d)
	looks(t, "one ahead of the greatest", d, meta.Meta{Boot: greatest, Hot: 3, Dirty: 4})
	startStays(t, "behind the last start", d, api.ErrRange)
}

// The superblock's ring has no number left for a record: no start, whatever the boot.
func TestP13_1TheSuperblocksLastRecord(t *testing.T) {
	d := sample.Disk(8)
	superblock.lay(d, greatest-1, 6)
	starts(t, "the last record", d)
	startStays(t, "behind the last record", d, api.ErrRange)
	looks(t, "behind the last record", d, meta.Meta{Boot: 7})
}

// filled: a disk of that size with bytes in each sector behind the rings.
func filled(size int) *disk.Disk {
	d := sample.Disk(size)
	for at := 8; at < size; at++ {
		d.Write(at, api.Sector{byte(at), byte(at >> 8), 7})
	}
	return d
}

// Starts, Retires, and Puts of the log and of the bitmap on one disk, each asked behind the other.
func TestP13_1Runs(t *testing.T) {
	for _, size := range []int{8, 9, 12, api.MaxDisk} {
		d := filled(size)
		var m meta.Meta
		for i, w := range sample.Words()[130:330] {
			mask := w >> 8 % 32
			if w%7 == 0 {
				mask = w
			}
			what := fmt.Sprintf("of %d sectors, number %d", size, i)
			switch w >> 40 % 5 {
			case 0:
				starts(t, what, d)
				m.Boot++
			case 1:
				retires(t, what, d, mask)
				m.Hot, m.Dirty = 0, mask
			case 2:
				retires(t, what, d, meta.Mine(m))
				m.Hot, m.Dirty = 0, either(m.Hot, m.Dirty)
			case 3:
				if err := actlog.Put(d, mask); err != api.OK {
					t.Errorf("%s: the log's Put: %v", what, err)
				}
				m.Hot = mask
			case 4:
				if err := dirty.Put(d, mask); err != api.OK {
					t.Errorf("%s: the bitmap's Put: %v", what, err)
				}
				m.Dirty = mask
			}
			looks(t, what, d, m)
			if i%3 == 0 {
				d.Crash(w)
				looks(t, what+", behind a crash", d, m)
			}
			if i%5 == 0 && size > 8 {
				d.Write(size-1, api.Sector{byte(i)})
			}
		}
	}
}

func TestP13_2EachMaskBehindEachOther(t *testing.T) {
	for _, hot := range masks() {
		for _, was := range masks() {
			for _, mask := range masks() {
				d := having(8, meta.Meta{Boot: 2, Hot: hot, Dirty: was})
				ops := d.Ops()
				if was != mask {
					ops += 2
				}
				if hot != 0 {
					ops += 2
				}
				what := fmt.Sprintf("hot %#x, dirty %#x", hot, was)
				retires(t, what, d, mask)
				if d.Ops() != ops {
					t.Errorf("%s: Retire(%#x): Ops %d, want %d", what, mask, d.Ops(), ops)
				}
				retireStays(t, what+", again", d, mask, api.OK)
			}
		}
	}
}

// What is told already is not written: neither of both, the one, the other.
func TestP13_2WhatIsDirtyAlready(t *testing.T) {
	for _, mask := range []uint64{0, 7, all} {
		d := having(12, meta.Meta{Boot: 1, Dirty: mask})
		retireStays(t, "the log is empty", d, mask, api.OK)
		d = having(12, meta.Meta{Boot: 1, Hot: 5, Dirty: mask})
		writes, front := actlog.Writes(d), d.Copy()
		retires(t, "the log is not empty", d, mask)
		if actlog.Writes(d) != writes+1 || d.Durable(6) != front.Durable(6) || d.Durable(7) != front.Durable(7) {
			t.Errorf("Retire(%#x): the log was written %d times, the bitmap has %v, %v", mask, actlog.Writes(d)-writes, d.Durable(6), d.Durable(7))
		}
		d = having(12, meta.Meta{Boot: 1, Dirty: mask})
		writes = actlog.Writes(d)
		retires(t, "another mask, and the log is empty", d, mask^8)
		if actlog.Writes(d) != writes {
			t.Errorf("Retire(%#x): the log was written %d times, want none", mask^8, actlog.Writes(d)-writes)
		}
	}
}

// Just the bitmap's record and the log's are written, and nothing of the superblock's or of the data.
func TestP13_2WhatARetireWrites(t *testing.T) {
	d := filled(16)
	starts(t, "the first", d)
	actlog.Put(d, 3)
	dirty.Put(d, 4)
	was := d.Copy()
	retires(t, "3 and 4", d, 7)
	for at := range 16 {
		want := was.Durable(at)
		switch at {
		case 4:
			want = seal.Record(2, 0)
		case 6:
			want = seal.Record(2, 7)
		}
		if d.Durable(at) != want {
			t.Errorf("sector %d: %v, want %v", at, d.Durable(at), want)
		}
	}
}

// The bitmap's last sector is missing, and nothing but the mask 0 can be out of sync; one sector more, and all can be.
func TestP13_2TooSmallForTheBitmap(t *testing.T) {
	for size := 6; size <= 7; size++ {
		what := fmt.Sprintf("of %d sectors", size)
		for _, mask := range []uint64{1, 7, all} {
			d := having(size, meta.Meta{Boot: 3, Hot: 5})
			retireStays(t, what, d, mask, api.ErrArg)
			looks(t, what, d, meta.Meta{Boot: 3, Hot: 5})
			retires(t, what, d, 0)
			retireStays(t, what+", the log is empty", d, mask, api.ErrArg)
			retireStays(t, what+", the log is empty", d, 0, api.OK)
		}
	}
	for _, mask := range masks() {
		retires(t, "of eight sectors", having(8, meta.Meta{Boot: 3, Hot: 5}), mask)
	}
}

// No log, too: it is empty already.
func TestP13_2TooSmallForTheLog(t *testing.T) {
	for size := 1; size <= 5; size++ {
		what := fmt.Sprintf("of %d sectors", size)
		d := sample.Disk(size)
		for at := range size {
			sample.Lay(d, at, seal.Record(uint32(at+2), 9))
		}
		retireStays(t, what, d, 0, api.OK)
		for _, mask := range []uint64{1, 7, all} {
			retireStays(t, what, d, mask, api.ErrArg)
		}
	}
	d := sample.Disk(6)
	if err := actlog.Put(d, 9); err != api.OK {
		t.Errorf("the log's Put: %v", err)
	}
	looks(t, "of six sectors", d, meta.Meta{Hot: 9})
	retires(t, "of six sectors", d, 0)
	retireStays(t, "of six sectors", d, 0, api.OK)
}

// The first Put's error ends it, with the log as it was.
func TestP13_2TheFirstPutFails(t *testing.T) {
	d := having(12, meta.Meta{Boot: 3, Hot: 5})
	bitmap.lay(d, greatest, 4)
	retireStays(t, "the bitmap's last record", d, 5, api.ErrRange)
	retireStays(t, "the bitmap's last record", d, 0, api.ErrRange)
	looks(t, "the bitmap's last record", d, meta.Meta{Boot: 3, Hot: 5, Dirty: 4})
	retires(t, "the bitmap's last record tells it already", d, 4)

	d = having(12, meta.Meta{Boot: 3, Hot: 5, Dirty: 4})
	writes := actlog.Writes(d)
	d.Fuse(0)
	if err := meta.Retire(d, 7); err != api.ErrDown || !d.Broken() {
		t.Errorf("a fuse of 0: Retire: %v, broken %v", err, d.Broken())
	}
	d.Crash(all)
	looks(t, "a fuse of 0", d, meta.Meta{Boot: 3, Hot: 5, Dirty: 4})
	if actlog.Writes(d) != writes {
		t.Errorf("the log was written %d times", actlog.Writes(d)-writes)
	}
}

// The second Put's error is told, and what the first one did is there: the mask is out of sync, and the log as it was.
func TestP13_2TheSecondPutFails(t *testing.T) {
	for _, mask := range []uint64{0, 5, 7, all} {
		d := having(12, meta.Meta{Boot: 3, Dirty: 4})
		activity.lay(d, greatest, 5)
		want := d.Copy()
		bitmap.turn(want, mask)
		if err := meta.Retire(d, mask); err != api.ErrRange {
			t.Errorf("the log's last record: Retire(%#x): %v, want %v", mask, err, api.ErrRange)
		}
		if !sample.Alike(d, want) {
			t.Errorf("the log's last record: Retire(%#x) is not the bitmap's Put alone", mask)
		}
		looks(t, "the log's last record", d, meta.Meta{Boot: 3, Hot: 5, Dirty: mask})
	}
	d := having(12, meta.Meta{Boot: 3, Dirty: 4})
	activity.lay(d, greatest, 0)
	retires(t, "the log's last record is of no extent", d, 7)
}

// Each part of a broken disk is what its ring's package tells; the mask 0 and an empty log are no way round the error.
func TestP13_2ABrokenDisk(t *testing.T) {
	for _, size := range []int{1, 2, 5, 6, 7, 8, 12} {
		for _, m := range []meta.Meta{{}, {Boot: 1}, {Boot: 3, Hot: 5, Dirty: 6}, {Boot: greatest, Dirty: all}} {
			d := having(size, m)
			d.Write(size-1, api.Sector{7})
			sample.Broken(d)
			what := fmt.Sprintf("broken, of %d sectors, %v", size, m)
			looks(t, what, d, meta.Meta{})
			looks(t, what, d, meta.Meta{Boot: super.Boot(d), Hot: actlog.Get(d), Dirty: dirty.Get(d)})
			for _, mask := range []uint64{0, 1, m.Dirty, all} {
				retireStays(t, what, d, mask, api.ErrDown)
			}
			if size == 1 {
				startStays(t, what, d, api.ErrArg)
			} else {
				startStays(t, what, d, api.ErrDown)
			}
		}
	}
}

// A crash mends it, and what was durable is told again.
func TestP13_2BrokenAndMended(t *testing.T) {
	m := meta.Meta{Boot: 3, Hot: 5, Dirty: 6}
	d := sample.Broken(having(12, m))
	retireStays(t, "broken", d, 7, api.ErrDown)
	startStays(t, "broken", d, api.ErrDown)
	d.Crash(all)
	looks(t, "mended", d, m)
	starts(t, "mended", d)
	retires(t, "mended", d, 7)
}

func TestR5ADiskThatNoCallMade(t *testing.T) {
	for _, d := range []*disk.Disk{nil, {}} {
		for range 2 {
			if m := meta.Look(d); m != (meta.Meta{}) {
				t.Errorf("Look: %v", m)
			}
			if m, err := meta.Start(d); m != (meta.Meta{}) || err != api.ErrMade {
				t.Errorf("Start: %v, %v, want %v", m, err, api.ErrMade)
			}
			for _, mask := range masks() {
				if err := meta.Retire(d, mask); err != api.ErrMade {
					t.Errorf("Retire(%#x): %v, want %v", mask, err, api.ErrMade)
				}
			}
			d.Fuse(0)
			d.Crash(all)
		}
		if d.Made() || d != nil && fmt.Sprint(*d) != fmt.Sprint(disk.Disk{}) {
			t.Errorf("a Disk that no call made became %v", d)
		}
	}
	if mine := meta.Mine(meta.Meta{}); mine != 0 {
		t.Errorf("Mine of the zero Meta: %#x", mine)
	}
}

// What is told hangs on the disk alone: disks that are asked in turn don't know of each other, and a Meta stays as it was told.
func TestR4DisksGoTheirOwnWays(t *testing.T) {
	one, other := sample.Disk(8), sample.Disk(8)
	for i := range uint64(20) {
		starts(t, "one", one)
		actlog.Put(one, i+1)
		m := meta.Look(one)
		retires(t, "the other", other, 100+i)
		third := one.Copy()
		starts(t, "a copy", third)
		retires(t, "a copy", third, meta.Mine(m))
		if m != (meta.Meta{Boot: uint32(i + 1), Hot: i + 1, Dirty: i}) {
			t.Errorf("what was told became %v", m)
		}
		looks(t, "one", one, m)
		looks(t, "the other", other, meta.Meta{Dirty: 100 + i})
		retires(t, "one", one, i+1)
	}
}
