package dirty_test

import (
	"fmt"
	"testing"

	"twain/api"
	"twain/dirty"
	"twain/disk"
	"twain/sample"
)

// change is what turns the bitmap: a Put of a mask, or a Clear of an extent.
type change struct {
	isPut bool
	mask  uint64
	e     int
}

func put(mask uint64) change { return change{isPut: true, mask: mask} }

func clearOf(e int) change { return change{e: e} }

func (c change) String() string {
	if c.isPut {
		return fmt.Sprintf("Put(%#x)", c.mask)
	}
	return fmt.Sprintf("Clear(%d)", c.e)
}

// aim: the set that the change is to leave behind that one.
func (c change) aim(has uint64) uint64 {
	if c.isPut {
		return c.mask
	}
	return sample.Without(has, c.e)
}

// do: the change is asked for: what is told to be left, and the error. A Put tells nothing: where it is done, its mask is what is left.
func (c change) do(d *disk.Disk) (uint64, api.Errno) {
	if !c.isPut {
		return dirty.Clear(d, c.e)
	}
	if err := dirty.Put(d, c.mask); err != api.OK {
		return 0, err
	}
	return c.mask, api.OK
}

// device is a disk with a bitmap, and what the bitmap must tell.
type device struct {
	d    *disk.Disk
	mask uint64
}

func (v device) copy() device {
	v.d = v.d.Copy()
	return v
}

// asked: does the bitmap tell that?
func (v device) asked(t *testing.T, what string) {
	t.Helper()
	tells(t, what, v.d, v.mask)
}

// turn: a change that nothing comes between.
func (v *device) turn(t *testing.T, c change) {
	t.Helper()
	if c.isPut {
		puts(t, "between crashes", v.d, c.mask)
	} else {
		clears(t, "between crashes", v.d, c.e)
	}
	v.mask = c.aim(v.mask)
	v.asked(t, "behind a change")
}

// fall: a change of which ops operations can be done, and the crash that follows. The new set is there, if it was flushed, or if the crash spares the sector that was written: the bit that counts is that sector's.
func (v *device) fall(t *testing.T, c change, ops int, spares, bit uint64) {
	t.Helper()
	aim := c.aim(v.mask)
	isDone := ops >= 2 || aim == v.mask
	v.d.Fuse(ops)
	left, err := c.do(v.d)
	if isDone && (left != aim || err != api.OK) || !isDone && (left != 0 || err != api.ErrDown) {
		t.Errorf("behind %#x, with %d operations left: %v: %#x, %v", v.mask, ops, c, left, err)
	}
	v.d.Crash(spares)
	if isDone || ops == 1 && spares&bit != 0 {
		v.mask = aim
	}
	v.asked(t, fmt.Sprintf("%d operations of %v, and a crash that spares %#x", ops, c, spares))
}

// One change behind two Puts, a crash in it, and each change that may follow: to the old set, to the new one, to none, and to one more.
func TestP11_2ACrashWithinAChange(t *testing.T) {
	for _, c := range []struct {
		ops    int
		spares uint64
		isNew  bool
	}{
		{0, 0, false}, {0, 1, false}, {0, all, false},
		{1, 0, false}, {1, 2, false}, {1, all - 1, false}, {1, 1, true}, {1, all, true},
		{2, 0, true}, {2, 1, true}, {2, all, true},
	} {
		for _, falls := range []change{put(8), clearOf(0)} {
			for _, follows := range []change{put(9), put(8), put(0), put(13), clearOf(0), clearOf(3), clearOf(1), clearOf(-1)} {
				d := sample.Disk(8)
				puts(t, "the first", d, 7)
				puts(t, "the second", d, 9)
				d.Fuse(c.ops)
				if _, err := falls.do(d); (err == api.OK) != (c.ops == 2) || err != api.OK && err != api.ErrDown {
					t.Errorf("%v, with %d operations left: %v", falls, c.ops, err)
				}
				d.Crash(c.spares)
				what := fmt.Sprintf("%d operations of %v, and a crash that spares %#x", c.ops, falls, c.spares)
				v := device{d: d, mask: 9}
				if c.isNew {
					v.mask = 8
				}
				v.asked(t, what)
				v.turn(t, follows)
				d.Crash(0)
				v.asked(t, fmt.Sprintf("%s, %v, and a crash", what, follows))
			}
		}
	}
}

// A crash ahead of each operation of each change, between and behind them, and changes that follow, round the ring and over.
func TestP11_2ACrashAtEachOperation(t *testing.T) {
	for _, size := range []int{8, 12} {
		v := device{d: sample.Disk(size)}
		for i := range 12 {
			for ops := range 4 {
				for _, spares := range []uint64{0, 1, 2, all - 1, all} {
					for _, c := range []change{put(1000 + uint64(i)), put(0), put(all), clearOf(0), clearOf(63), clearOf(i), clearOf(64)} {
						w := v.copy()
						w.d.Crash(spares)
						w.asked(t, "behind a crash ahead of a change")
						w.fall(t, c, ops, spares, 1)
						for k := range 3 {
							w.turn(t, put(uint64(2001+i+k)))
							w.d.Crash(spares)
							w.asked(t, "behind a crash behind a Put")
							w.turn(t, clearOf(k))
							w.d.Crash(spares)
							w.asked(t, "behind a crash behind a Clear")
						}
					}
				}
			}
			v.turn(t, put(1<<63+uint64(10+i)))
		}
	}
}

// What else is cached, ahead of the bitmap and behind it, has bits of its own.
func TestP11_2OthersAreCached(t *testing.T) {
	for spares := range uint64(32) {
		v := device{d: sample.Disk(12)}
		for i := range uint64(10) {
			for _, at := range []int{1, 5, 8, 11} {
				v.d.Write(at, api.Sector{byte(i), byte(at)})
			}
			v.fall(t, put(100+i), 1, spares, 1<<2)
			v.turn(t, put(200+i))
			v.d.Write(5, api.Sector{byte(i)})
			v.fall(t, clearOf(3), 1, spares, 1<<1)
			v.d.Write(8, api.Sector{byte(i)})
			v.fall(t, clearOf(6), 1, spares, 1)
			v.turn(t, clearOf(7))
		}
	}
}

// All sectors but the bitmap's own are cached too, far more than a mask has bits.
func TestP11_2AWholeDiskIsCached(t *testing.T) {
	for _, spares := range []uint64{0, 1, 1 << 6, all - 1<<6, all} {
		for _, c := range []change{put(8), clearOf(0)} {
			v := device{d: sample.Disk(api.MaxDisk)}
			v.turn(t, put(9))
			rest := filled(api.MaxDisk)
			for _, at := range rest.Cached() {
				s, _ := rest.Read(at)
				v.d.Write(at, s)
			}
			v.fall(t, c, 1, spares, 1<<6)
			v.turn(t, clearOf(3))
			v.turn(t, put(11))
		}
	}
}

// Crash upon crash, with no change that ends in between.
func TestP11_2ManyThatFall(t *testing.T) {
	for _, spares := range []uint64{0, 1, all - 1, all} {
		for ops := range 2 {
			v := device{d: sample.Disk(8)}
			v.turn(t, put(7))
			for i := range uint64(20) {
				v.fall(t, put(100+i), ops, spares, 1)
				v.fall(t, clearOf(int(i)%7), ops, spares, 1)
			}
			v.turn(t, put(9))
		}
	}
}

// Each row of four, of all that can happen around one of three changes: so it is often one that has nothing to do.
func TestP11_2AllShortRuns(t *testing.T) {
	changes := []change{put(6), clearOf(1), clearOf(2)}
	happen := []func(v *device, c change){
		func(v *device, c change) { v.turn(t, c) },
		func(v *device, c change) { v.fall(t, c, 0, all, 1) },
		func(v *device, c change) { v.fall(t, c, 1, 0, 1) },
		func(v *device, c change) { v.fall(t, c, 1, 1, 1) },
		func(v *device, c change) { v.fall(t, c, 2, 0, 1) },
	}
	for i := range 15 * 15 * 15 * 15 {
		v := device{d: sample.Disk(8)}
		for range 4 {
			happen[i%5](&v, changes[i/5%3])
			i /= 15
		}
	}
}

func TestP11_2LongRuns(t *testing.T) {
	for _, size := range []int{8, 9, 12} {
		v := device{d: sample.Disk(size)}
		for _, w := range sample.Words()[130:] {
			c := put(w >> 40 % 16)
			if w>>50%3 > 0 {
				c = clearOf(int(w>>40%6) - 1)
			}
			switch w % 8 {
			case 0, 1, 2:
				v.turn(t, c)
			case 3:
				v.d.Crash(w >> 3)
				v.asked(t, "behind a crash")
			default:
				v.fall(t, c, int(w>>3%3), w>>5, 1)
			}
		}
	}
}

// A set is cleared one by one though each Clear falls first, and is asked for again: all are gone in the end, and none ahead of its Clear.
func TestP11_2ClearedOneByOneThroughCrashes(t *testing.T) {
	for _, mask := range []uint64{6, 1<<63 + 1, sample.Words()[140], all} {
		for _, order := range orders(mask) {
			for ops := range 2 {
				for spares := range uint64(2) {
					v := device{d: sample.Disk(8)}
					v.turn(t, put(mask))
					for _, e := range order {
						v.fall(t, clearOf(e), ops, spares, 1)
						v.turn(t, clearOf(e))
					}
					tells(t, "all of them", v.d, 0)
				}
			}
		}
	}
}

// The last record is written, or a crash takes it, and it can be written again.
func TestP11_2TheLastRecord(t *testing.T) {
	for spares := range uint64(2) {
		for _, c := range []change{put(8), clearOf(0)} {
			v := device{d: having(8, greatest-1, 9), mask: 9}
			v.fall(t, c, 1, spares, 1)
			if spares == 0 {
				v.turn(t, c)
				v.d.Crash(all)
			}
			tells(t, "the last record", v.d, 8)
			putStays(t, "the last record", v.d, 9, api.ErrRange)
			clearStays(t, "the last record", v.d, 3, 0, api.ErrRange)
			putStays(t, "the last record, the same mask", v.d, 8, api.OK)
			clearStays(t, "the last record, cleared already", v.d, 0, 8, api.OK)
		}
	}
}
