package meta_test

import (
	"math"
	"testing"

	"twain/api"
	"twain/disk"
	"twain/meta"
	"twain/sample"
)

const (
	all      = math.MaxUint64
	greatest = math.MaxUint32
)

// ring is a row of sectors at the disk's front.
type ring struct{ base, sectors int }

var (
	superblock = ring{0, 2}
	activity   = ring{2, 4}
	bitmap     = ring{6, 2}
)

// word: what the ring's latest record tells.
func (r ring) word(d *disk.Disk) uint64 { return sample.RingWord(d, r.base, r.sectors) }

// turn: what a Put of that mask does to a disk that works and has the ring.
func (r ring) turn(d *disk.Disk, mask uint64) api.Errno {
	return sample.RingTurn(d, r.base, r.sectors, mask)
}

// lay: the ring has one record, of that number and word.
func (r ring) lay(d *disk.Disk, n uint32, word uint64) {
	sample.RingLay(d, r.base, r.sectors, n, word)
}

// known: what the disk tells of its node, by plain words.
func known(d *disk.Disk) meta.Meta {
	return meta.Meta{Boot: uint32(superblock.word(d) & greatest), Hot: activity.word(d), Dirty: bitmap.word(d)}
}

// having: a disk of that size that tells that, as far as it has room for it.
func having(size int, m meta.Meta) *disk.Disk {
	d := sample.Disk(size)
	if size >= 2 {
		superblock.lay(d, 5, uint64(m.Boot))
	}
	if size >= 6 {
		activity.lay(d, 6, m.Hot)
	}
	if size >= 8 {
		bitmap.lay(d, 7, m.Dirty)
	}
	return d
}

// either: the extents that one set has, or the other, number by number.
func either(a, b uint64) uint64 {
	var both uint64
	for n := range 64 {
		if a>>n&1 == 1 || b>>n&1 == 1 {
			both += 1 << n
		}
	}
	return both
}

// hasAll: has one set all that the other has?
func hasAll(set, other uint64) bool { return either(set, other) == set }

// looks: does Look tell that, does Mine tell its extents, and is the disk as it was?
func looks(t *testing.T, what string, d *disk.Disk, want meta.Meta) {
	t.Helper()
	was := d.Copy()
	got := meta.Look(d)
	if got != want {
		t.Errorf("%s: Look: %v, want %v", what, got, want)
	}
	if mine := meta.Mine(got); mine != either(want.Hot, want.Dirty) {
		t.Errorf("%s: Mine of %v: %#x", what, got, mine)
	}
	if !sample.Alike(d, was) {
		t.Errorf("%s: Look changed the disk", what)
	}
}

// starts: is the node started, and was just the superblock's next record written and flushed?
func starts(t *testing.T, what string, d *disk.Disk) {
	t.Helper()
	want, told := d.Copy(), known(d)
	told.Boot++
	superblock.turn(want, uint64(told.Boot))
	if got, err := meta.Start(d); got != told || err != api.OK {
		t.Errorf("%s: Start: %v, %v, want %v", what, got, err, told)
	}
	if !sample.Alike(d, want) {
		t.Errorf("%s: Start: Cached %v, Ops %d, want none, %d", what, d.Cached(), d.Ops(), want.Ops())
	}
	looks(t, what+", behind a Start", d, told)
}

// startStays: is that the error, with the zero Meta beside it, and is the disk as it was?
func startStays(t *testing.T, what string, d *disk.Disk, want api.Errno) {
	t.Helper()
	was := d.Copy()
	if got, err := meta.Start(d); got != (meta.Meta{}) || err != want {
		t.Errorf("%s: Start: %v, %v, want noughts, %v", what, got, err, want)
	}
	if !sample.Alike(d, was) {
		t.Errorf("%s: Start was refused, and changed the disk", what)
	}
}

// retires: is mask out of sync, and the log empty, and was nothing else done?
func retires(t *testing.T, what string, d *disk.Disk, mask uint64) {
	t.Helper()
	want, boot := d.Copy(), known(d).Boot
	bitmap.turn(want, mask)
	activity.turn(want, 0)
	if err := meta.Retire(d, mask); err != api.OK {
		t.Errorf("%s: Retire(%#x): %v", what, mask, err)
	}
	if !sample.Alike(d, want) {
		t.Errorf("%s: Retire(%#x): Cached %v, Ops %d, want none, %d", what, mask, d.Cached(), d.Ops(), want.Ops())
	}
	looks(t, what+", behind a Retire", d, meta.Meta{Boot: boot, Dirty: mask})
}

// retireStays: does a Retire answer that, and is the disk as it was?
func retireStays(t *testing.T, what string, d *disk.Disk, mask uint64, want api.Errno) {
	t.Helper()
	was := d.Copy()
	if err := meta.Retire(d, mask); err != want {
		t.Errorf("%s: Retire(%#x): %v, want %v", what, mask, err, want)
	}
	if !sample.Alike(d, was) {
		t.Errorf("%s: Retire(%#x) changed the disk: Cached %v, Ops %d, want %v, %d", what, mask, d.Cached(), d.Ops(), was.Cached(), was.Ops())
	}
}
