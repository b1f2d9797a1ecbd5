package super_test

import (
	"fmt"
	"testing"

	"twain/api"
	"twain/disk"
	"twain/sample"
	"twain/super"
)

// machine is a disk that a node is started from, which boot it stands at, and the last one that was answered.
type machine struct {
	d        *disk.Disk
	boot     uint32
	answered uint32
}

func (m machine) copy() machine {
	m.d = m.d.Copy()
	return m
}

// at: is that the boot that it stands at?
func (m machine) at(t *testing.T, what string) {
	t.Helper()
	tells(t, what, m.d, m.boot)
}

// next: a Next, of which ops operations can be done. What it answers is greater than all ahead, for each of those was.
func (m *machine) next(t *testing.T, ops int) {
	t.Helper()
	m.d.Fuse(ops)
	got, e := super.Next(m.d)
	if (e == api.OK) != (ops < 0 || ops >= 2) || (e == api.OK) != (got > 0) {
		t.Errorf("Next with %d operations left: %d, %v", ops, got, e)
	}
	if e != api.OK {
		return
	}
	if got <= m.answered || got != m.boot+1 {
		t.Errorf("Next: %d, though %d was answered ahead, and it stood at %d", got, m.answered, m.boot)
	}
	m.boot, m.answered = m.boot+1, got
	m.at(t, "behind a Next")
}

// fall: a Next of which ops operations are done, and the crash that follows. Of all that is cached the superblock stands first: the mask's lowest bit spares it.
func (m *machine) fall(t *testing.T, ops int, mask uint64) {
	t.Helper()
	m.next(t, ops)
	m.d.Crash(mask)
	if ops == 1 && mask&1 == 1 {
		m.boot++
	}
	m.at(t, "behind a crash")
}

// Whatever the crash left, the Next that follows it answers one more, and that is more than was answered ahead.
func TestP8_2ACrashWithinANext(t *testing.T) {
	for _, c := range []struct {
		ops  int
		mask uint64
		boot uint32
	}{{0, 0, 2}, {0, 1, 2}, {0, all, 2}, {1, 0, 2}, {1, all - 1, 2}, {1, 2, 2}, {1, 1, 3}, {1, all, 3}, {2, 0, 3}, {2, 1, 3}, {2, all, 3}} {
		d := sample.Disk(2)
		starts(t, "the first", d, 1)
		starts(t, "the second", d, 2)
		d.Fuse(c.ops)
		got, e := super.Next(d)
		if wantE := []api.Errno{api.ErrDown, api.ErrDown, api.OK}[c.ops]; e != wantE || e == api.OK && got != 3 || e != api.OK && got != 0 {
			t.Errorf("the third, with %d operations left: %d, %v", c.ops, got, e)
		}
		d.Crash(c.mask)
		what := fmt.Sprintf("%d operations, and a crash that spares %#x", c.ops, c.mask)
		tells(t, what, d, c.boot)
		starts(t, what, d, c.boot+1)
		starts(t, what, d, c.boot+2)
	}
}

// A crash ahead of each operation of each Next, between and behind them, and starts that follow, with crashes in between.
func TestP8_2ACrashAtEachOperation(t *testing.T) {
	for _, size := range []int{2, 8} {
		m := machine{d: sample.Disk(size)}
		for range 12 {
			for ops := range 4 {
				for _, mask := range []uint64{0, 1, 2, all - 1, all} {
					w := m.copy()
					w.d.Crash(mask)
					w.at(t, "behind a crash ahead of a Next")
					w.fall(t, ops, mask)
					for range 5 {
						w.next(t, -1)
						w.d.Crash(mask)
						w.at(t, "behind a crash behind a Next")
					}
				}
			}
			m.next(t, -1)
		}
	}
}

// What else is cached has bits of its own.
func TestP8_2OthersAreCached(t *testing.T) {
	for mask := range uint64(16) {
		m := machine{d: sample.Disk(8)}
		for i := range 10 {
			for _, at := range []int{2, 5, 7} {
				m.d.Write(at, api.Sector{byte(i), byte(at)})
			}
			m.fall(t, 1, mask)
			m.next(t, -1)
			m.d.Crash(^mask)
			m.at(t, "behind a crash")
		}
	}
}

// Crash upon crash, with no Next that ends in between.
func TestP8_2ManyThatFall(t *testing.T) {
	for _, mask := range []uint64{0, 1} {
		for ops := range 2 {
			m := machine{d: sample.Disk(2)}
			m.next(t, -1)
			for range 20 {
				m.fall(t, ops, mask)
			}
			m.next(t, -1)
		}
	}
}

// Each row of six, of all that can happen around a Next.
func TestP8_2AllShortRuns(t *testing.T) {
	happen := []func(m *machine){
		func(m *machine) { m.next(t, -1) },
		func(m *machine) { m.fall(t, 0, all) },
		func(m *machine) { m.fall(t, 1, 0) },
		func(m *machine) { m.fall(t, 1, 1) },
		func(m *machine) { m.fall(t, 2, 0) },
	}
	for i := range 5 * 5 * 5 * 5 * 5 * 5 {
		m := machine{d: sample.Disk(2)}
		for range 6 {
			happen[i%5](&m)
			i /= 5
		}
	}
}

func TestP8_2LongRuns(t *testing.T) {
	for _, size := range []int{2, 3, 8} {
		m := machine{d: sample.Disk(size)}
		for _, w := range sample.Words()[130:] {
			switch w % 8 {
			case 0, 1, 2:
				m.next(t, -1)
			case 3:
				m.d.Crash(w >> 3)
				m.at(t, "behind a crash")
			default:
				m.fall(t, int(w>>3%3), w>>5)
			}
		}
	}
}

// The last boot is answered once, or a crash takes its only Next.
func TestP8_2TheLastBoot(t *testing.T) {
	for mask := range uint64(2) {
		m := machine{d: having(2, 9, greatest-1), boot: greatest - 1}
		m.fall(t, 1, mask)
		if mask == 0 {
			m.next(t, -1)
			m.d.Crash(all)
		}
		tells(t, "the last boot", m.d, greatest)
		refuses(t, "the last boot", m.d, api.ErrRange)
	}
}
