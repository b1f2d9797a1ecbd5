package meta_test

import (
	"fmt"
	"testing"

	"twain/actlog"
	"twain/api"
	"twain/dirty"
	"twain/disk"
	"twain/meta"
	"twain/sample"
)

// device is a disk, and what it must tell of its node.
type device struct {
	d *disk.Disk
	m meta.Meta
}

// put: where a Put that had so many operations of the two that it needs leaves its ring, behind a crash that spares so: the record is there, if it was flushed, or if it was written and is spared.
func put(was, mask uint64, ops int, isSpared bool) uint64 {
	if ops >= 2 || ops == 1 && isSpared {
		return mask
	}
	return was
}

// need: how many operations a Put of that mask needs.
func need(was, mask uint64) int {
	if was == mask {
		return 0
	}
	return 2
}

// cut: which error is told of a call that needs so many operations and has so many.
func cut(needs, ops int) api.Errno {
	if ops < needs {
		return api.ErrDown
	}
	return api.OK
}

// crash: the crash, and what is told behind it.
func (v *device) crash(t *testing.T, what string, spares uint64) {
	t.Helper()
	v.d.Crash(spares)
	looks(t, fmt.Sprintf("%s, and a crash that spares %#x", what, spares), v.d, v.m)
}

// retire: a Retire of which ops operations can be done, and a crash: the lowest bit counts, that of the rings' one sector that is cached.
func (v *device) retire(t *testing.T, mask uint64, ops int, spares uint64) {
	t.Helper()
	was := v.m
	first, second := need(was.Dirty, mask), need(was.Hot, 0)
	what := fmt.Sprintf("%v: %d operations of Retire(%#x)", was, ops, mask)
	v.d.Fuse(ops)
	if err := meta.Retire(v.d, mask); err != cut(first+second, ops) {
		t.Errorf("%s: %v", what, err)
	}
	v.m.Dirty = put(was.Dirty, mask, ops, spares&1 == 1)
	v.m.Hot = put(was.Hot, 0, ops-first, spares&1 == 1)
	v.crash(t, what, spares)
	v.keeps(t, what, was, mask)
}

// keeps: behind a Retire of that mask, and a crash, is the boot as it was, and is none of Mine's extents forgotten that the mask has?
func (v *device) keeps(t *testing.T, what string, was meta.Meta, mask uint64) {
	t.Helper()
	now := meta.Look(v.d)
	if now.Boot != was.Boot {
		t.Errorf("%s: the boot became %d", what, now.Boot)
	}
	if mine := meta.Mine(was); hasAll(mask, mine) && !hasAll(meta.Mine(now), mine) {
		t.Errorf("%s: Mine became %#x, and was %#x", what, meta.Mine(now), mine)
	}
}

// start: a Start of which ops operations can be done, and a crash: the lowest bit counts here, too.
func (v *device) start(t *testing.T, ops int, spares uint64) {
	t.Helper()
	what := fmt.Sprintf("%v: %d operations of Start", v.m, ops)
	aim := v.m
	aim.Boot++
	told := aim
	if ops < 2 {
		told = meta.Meta{}
	}
	v.d.Fuse(ops)
	if m, err := meta.Start(v.d); m != told || err != cut(2, ops) {
		t.Errorf("%s: %v, %v", what, m, err)
	}
	v.m.Boot = uint32(put(uint64(v.m.Boot), uint64(aim.Boot), ops, spares&1 == 1))
	v.crash(t, what, spares)
}

// spared: nothing, all, and some of what is cached.
func spared() []uint64 { return []uint64{0, 1, 2, 1 << 63, all - 1, all} }

// A Retire that falls at each of its operations, from none up to one more than it needs.
func TestP13_3ACrashWithinARetire(t *testing.T) {
	for _, hot := range []uint64{0, 3, 1 << 63, all} {
		for _, unlike := range []uint64{0, 4, 7, 1 << 63, all} {
			for _, mask := range []uint64{either(hot, unlike), 0, 4, 7, all} {
				m := meta.Meta{Boot: 9, Hot: hot, Dirty: unlike}
				for ops := range need(unlike, mask) + need(hot, 0) + 2 {
					for _, spares := range spared() {
						v := device{d: having(12, m), m: m}
						v.retire(t, mask, ops, spares)
						starts(t, "behind it", v.d)
						retires(t, "behind it, once more", v.d, mask)
					}
				}
			}
		}
	}
}

func TestP13_3ACrashWithinAStart(t *testing.T) {
	for _, m := range []meta.Meta{{}, {Boot: 1}, {Boot: 9, Hot: 3, Dirty: 4}, {Boot: greatest - 2, Hot: all, Dirty: all}} {
		for ops := range 4 {
			for _, spares := range spared() {
				v := device{d: having(12, m), m: m}
				v.start(t, ops, spares)
				starts(t, "behind it", v.d)
			}
		}
	}
}

// The last start there is: written, or taken by a crash, and then it can be had again.
func TestP13_3TheLastStart(t *testing.T) {
	for _, spares := range []uint64{0, 1} {
		m := meta.Meta{Boot: greatest - 1, Hot: 3, Dirty: 4}
		v := device{d: having(8, m), m: m}
		v.start(t, 1, spares)
		if spares == 0 {
			starts(t, "taken", v.d)
		}
		startStays(t, "the greatest boot", v.d, api.ErrRange)
	}
}

// A Retire of all that is Mine falls again and again: nothing is forgotten, and in the end it is done.
func TestP13_3ManyThatFall(t *testing.T) {
	for ops := range 4 {
		for _, spares := range spared() {
			m := meta.Meta{Boot: 2, Hot: 3, Dirty: 4}
			v := device{d: having(8, m), m: m}
			for range 20 {
				v.retire(t, meta.Mine(meta.Look(v.d)), ops, spares)
				if meta.Mine(v.m) != 7 {
					t.Errorf("%d operations, spares %#x: Mine became %#x", ops, spares, meta.Mine(v.m))
				}
			}
			retires(t, "in the end", v.d, 7)
		}
	}
}

// Sectors of the data area are cached, too, behind those of the rings: these have the lowest bit still.
func TestP13_3OthersAreCached(t *testing.T) {
	for spares := range uint64(16) {
		for ops := range 6 {
			m := meta.Meta{Boot: 2, Hot: 3, Dirty: 4}
			v := device{d: having(12, m), m: m}
			// A Flush of the first step takes them along: behind it the second step's record is alone.
			for at := 8; at < 11; at++ {
				v.d.Write(at, api.Sector{byte(at)})
			}
			v.retire(t, 7, ops, spares)
			for at := 8; at < 11; at++ {
				isThere := ops >= 2 || spares>>(at-8)&1 == 1 && ops == 0 || spares>>(at-7)&1 == 1 && ops == 1
				if (v.d.Durable(at) == api.Sector{byte(at)}) != isThere {
					t.Errorf("%d operations, spares %#x: sector %d: %v", ops, spares, at, v.d.Durable(at))
				}
			}
			v.start(t, ops, spares)
		}
	}
}

// step: what may happen, chosen by a word of no pattern: a Start or a Retire that falls or not, a Put of the log or of the bitmap, or a crash.
func (v *device) step(t *testing.T, w uint64) {
	t.Helper()
	mask, ops, spares := w>>8%64, int(w>>20%6), w>>30
	switch w % 7 {
	case 0:
		v.start(t, ops, spares)
	case 1:
		v.retire(t, mask, ops, spares)
	case 2, 3:
		v.retire(t, either(meta.Mine(v.m), mask&w>>40), ops, spares)
	case 4:
		actlog.Put(v.d, mask)
		v.m.Hot = mask
	case 5:
		dirty.Put(v.d, mask)
		v.m.Dirty = mask
	case 6:
		v.crash(t, "between", spares)
	}
	looks(t, fmt.Sprintf("step %#x", w), v.d, v.m)
}

func TestP13_3LongRuns(t *testing.T) {
	for _, size := range []int{8, 9, 12} {
		v := device{d: sample.Disk(size)}
		for _, w := range sample.Words()[130:] {
			v.step(t, w)
		}
	}
}

// Each row of four of all that can happen around two sets.
func TestP13_3AllShortRuns(t *testing.T) {
	happen := []func(v *device){
		func(v *device) { v.start(t, 2, 0) },
		func(v *device) { v.start(t, 1, 1) },
		func(v *device) { actlog.Put(v.d, 3); v.m.Hot = 3 },
		func(v *device) { dirty.Put(v.d, 4); v.m.Dirty = 4 },
		func(v *device) { v.retire(t, 7, 1, 0) },
		func(v *device) { v.retire(t, 7, 1, 1) },
		func(v *device) { v.retire(t, 7, 2, 0) },
		func(v *device) { v.retire(t, 7, 3, 0) },
		func(v *device) { v.retire(t, 7, 3, 1) },
		func(v *device) { v.retire(t, 7, 4, 0) },
		func(v *device) { v.retire(t, 0, 3, 0) },
	}
	n := len(happen)
	for i := range n * n * n * n {
		v := device{d: sample.Disk(8)}
		for range 4 {
			happen[i%n](&v)
			looks(t, fmt.Sprintf("run %d", i), v.d, v.m)
			i /= n
		}
	}
}
