package actlog_test

import (
	"fmt"
	"testing"

	"twain/actlog"
	"twain/api"
	"twain/disk"
	"twain/sample"
)

// device is a disk with a log, and what the log must tell.
type device struct {
	d      *disk.Disk
	writes uint32
	mask   uint64
}

func (v device) copy() device {
	v.d = v.d.Copy()
	return v
}

// asked: does the log tell that?
func (v device) asked(t *testing.T, what string) {
	t.Helper()
	tells(t, what, v.d, v.writes, v.mask)
}

// take: the log must tell the new mask, if that is another one.
func (v *device) take(mask uint64) {
	if mask != v.mask {
		v.writes, v.mask = v.writes+1, mask
	}
}

// put: a Put that nothing comes between.
func (v *device) put(t *testing.T, mask uint64) {
	t.Helper()
	puts(t, "between crashes", v.d, mask)
	v.take(mask)
	v.asked(t, "behind a Put")
}

// fall: a Put of which ops operations can be done, and the crash that follows. The new set is there, if it was flushed, or if the crash spares the sector that was written: the bit that counts is that sector's.
func (v *device) fall(t *testing.T, mask uint64, ops int, spares, bit uint64) {
	t.Helper()
	v.d.Fuse(ops)
	if e := actlog.Put(v.d, mask); (e == api.OK) != (ops >= 2 || mask == v.mask) || e != api.OK && e != api.ErrDown {
		t.Errorf("behind %#x, with %d operations left: Put(%#x): %v", v.mask, ops, mask, e)
	}
	v.d.Crash(spares)
	if ops >= 2 || ops == 1 && spares&bit != 0 {
		v.take(mask)
	}
	v.asked(t, fmt.Sprintf("%d operations of Put(%#x), and a crash that spares %#x", ops, mask, spares))
}

// One Put behind two others, a crash in it, and each Put that may follow: the old set, the new one, none, and one more.
func TestP10_2ACrashWithinAPut(t *testing.T) {
	for _, c := range []struct {
		ops    int
		spares uint64
		isNew  bool
	}{
		{0, 0, false}, {0, 1, false}, {0, all, false},
		{1, 0, false}, {1, 2, false}, {1, all - 1, false}, {1, 1, true}, {1, all, true},
		{2, 0, true}, {2, 1, true}, {2, all, true},
	} {
		for _, follows := range []uint64{9, 11, 0, 13} {
			d := sample.Disk(6)
			writes(t, "the first", d, 7)
			writes(t, "the second", d, 9)
			d.Fuse(c.ops)
			if e := actlog.Put(d, 11); (e == api.OK) != (c.ops == 2) || e != api.OK && e != api.ErrDown {
				t.Errorf("the third, with %d operations left: %v", c.ops, e)
			}
			d.Crash(c.spares)
			what := fmt.Sprintf("%d operations, and a crash that spares %#x", c.ops, c.spares)
			if c.isNew {
				tells(t, what, d, 3, 11)
			} else {
				tells(t, what, d, 2, 9)
			}
			puts(t, what, d, follows)
			d.Crash(0)
			if actlog.Get(d) != follows {
				t.Errorf("%s, Put(%d), and a crash: Get %d", what, follows, actlog.Get(d))
			}
		}
	}
}

// A crash ahead of each operation of each Put, between and behind them, and puts that follow, round the ring and over.
func TestP10_2ACrashAtEachOperation(t *testing.T) {
	for _, size := range []int{6, 8} {
		v := device{d: sample.Disk(size)}
		for i := range uint64(12) {
			for ops := range 4 {
				for _, spares := range []uint64{0, 1, 2, all - 1, all} {
					w := v.copy()
					w.d.Crash(spares)
					w.asked(t, "behind a crash ahead of a Put")
					w.fall(t, 1000+i, ops, spares, 1)
					for k := range uint64(9) {
						w.put(t, 2000+i+k)
						w.d.Crash(spares)
						w.asked(t, "behind a crash behind a Put")
					}
				}
			}
			v.put(t, 10+i)
		}
	}
}

// What else is cached, ahead of the log and behind it, has bits of its own.
func TestP10_2OthersAreCached(t *testing.T) {
	for spares := range uint64(32) {
		v := device{d: sample.Disk(8)}
		for i := range uint64(10) {
			for _, at := range []int{0, 1, 6, 7} {
				v.d.Write(at, api.Sector{byte(i), byte(at)})
			}
			v.fall(t, 100+i, 1, spares, 1<<2)
			v.d.Write(1, api.Sector{byte(i)})
			v.fall(t, 200+i, 1, spares, 1<<1)
			v.d.Write(6, api.Sector{byte(i)})
			v.fall(t, 300+i, 1, spares, 1)
			v.put(t, 400+i)
		}
	}
}

// All sectors but the log's own are cached too, far more than a mask has bits.
func TestP10_2AWholeDiskIsCached(t *testing.T) {
	for _, spares := range []uint64{0, 1, 2, 4, all - 4, all} {
		v := device{d: sample.Disk(api.MaxDisk)}
		v.put(t, 7)
		for at := range api.MaxDisk {
			if at < 2 || at >= 6 {
				v.d.Write(at, api.Sector{byte(at), 3})
			}
		}
		v.fall(t, 9, 1, spares, 1<<2)
		v.put(t, 11)
	}
}

// Crash upon crash, with no Put that ends in between.
func TestP10_2ManyThatFall(t *testing.T) {
	for _, spares := range []uint64{0, 1, all - 1, all} {
		for ops := range 2 {
			v := device{d: sample.Disk(6)}
			v.put(t, 7)
			for i := range uint64(20) {
				v.fall(t, 100+i, ops, spares, 1)
			}
			v.put(t, 9)
		}
	}
}

// Each row of five, of all that can happen around a Put of one of two masks: so it is often the same one again.
func TestP10_2AllShortRuns(t *testing.T) {
	happen := []func(v *device, mask uint64){
		func(v *device, mask uint64) { v.put(t, mask) },
		func(v *device, mask uint64) { v.fall(t, mask, 0, all, 1) },
		func(v *device, mask uint64) { v.fall(t, mask, 1, 0, 1) },
		func(v *device, mask uint64) { v.fall(t, mask, 1, 1, 1) },
		func(v *device, mask uint64) { v.fall(t, mask, 2, 0, 1) },
	}
	for i := range 10 * 10 * 10 * 10 {
		v := device{d: sample.Disk(6)}
		for range 4 {
			happen[i%5](&v, uint64(i/5%2)*7)
			i /= 10
		}
	}
}

func TestP10_2LongRuns(t *testing.T) {
	for _, size := range []int{6, 7, 12} {
		v := device{d: sample.Disk(size)}
		for _, w := range sample.Words()[130:] {
			mask := w >> 40 % 4
			switch w % 8 {
			case 0, 1, 2:
				v.put(t, mask)
			case 3:
				v.d.Crash(w >> 3)
				v.asked(t, "behind a crash")
			default:
				v.fall(t, mask, int(w>>3%3), w>>5, 1)
			}
		}
	}
}

// The last record is written, or a crash takes it, and it can be written again.
func TestP10_2TheLastRecord(t *testing.T) {
	for spares := range uint64(2) {
		v := device{d: having(6, greatest-1, 7), writes: greatest - 1, mask: 7}
		v.fall(t, 9, 1, spares, 1)
		if spares == 0 {
			v.put(t, 9)
			v.d.Crash(all)
		}
		tells(t, "the last record", v.d, greatest, 9)
		answers(t, "the last record", v.d, 7, api.ErrRange)
		answers(t, "the last record, the same mask", v.d, 9, api.OK)
	}
}
