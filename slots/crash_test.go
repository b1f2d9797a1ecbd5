package slots_test

import (
	"testing"

	"twain/api"
	"twain/disk"
	"twain/sample"
	"twain/slots"
)

// device is a disk with a ring, and what was put there last as far as no crash spared more.
type device struct {
	d          *disk.Disk
	base, ring int
	number     uint32
	word       uint64
}

// newDevice: a disk with a ring, and two sectors more on both sides.
func newDevice(ring int) device {
	return device{d: sample.Disk(ring + 4), base: 2, ring: ring}
}

func (v device) copy() device {
	v.d = v.d.Copy()
	return v
}

// asked: is the latest word the one that was put last?
func (v device) asked(t *testing.T, what string) {
	t.Helper()
	tells(t, what, v.d, v.base, v.ring, v.number, v.word)
}

// put: a Put that nothing comes between.
func (v *device) put(t *testing.T, word uint64) {
	t.Helper()
	puts(t, v.d, v.base, v.ring, word)
	v.number, v.word = v.number+1, word
	v.asked(t, "behind a Put")
}

// fall: a Put of which ops operations are done, and the crash that follows. The sector that it wrote is spared, if the mask has the bit that counts.
func (v *device) fall(t *testing.T, word uint64, ops int, mask, bit uint64) {
	t.Helper()
	v.d.Fuse(ops)
	if e := slots.Put(v.d, v.base, v.ring, word); (e == api.OK) != (ops >= 2) {
		t.Errorf("Put with %d operations left: %v", ops, e)
	}
	v.d.Crash(mask)
	if ops >= 2 || ops == 1 && mask&bit != 0 {
		v.number, v.word = v.number+1, word
	}
	v.asked(t, "behind a crash within a Put")
}

// The chapter's example, whole.
func TestP7_3CrashWithinTheThirdPut(t *testing.T) {
	for _, c := range []struct {
		ops    int
		mask   uint64
		number uint32
		word   uint64
	}{{0, 0, 2, 9}, {0, all, 2, 9}, {1, 0, 2, 9}, {1, all - 1, 2, 9}, {1, 1, 3, 11}, {1, all, 3, 11}, {2, 0, 3, 11}, {2, all, 3, 11}} {
		d := sample.Disk(4)
		puts(t, d, 1, 2, 7)
		puts(t, d, 1, 2, 9)
		d.Fuse(c.ops)
		slots.Put(d, 1, 2, 11)
		d.Crash(c.mask)
		tells(t, "behind the crash", d, 1, 2, c.number, c.word)
		puts(t, d, 1, 2, 13)
		tells(t, "behind the Put that follows", d, 1, 2, c.number+1, 13)
	}
}

// A crash at each operation of each Put, and puts behind it, round the ring and over.
func TestP7_3CrashAtEachOperation(t *testing.T) {
	for ring := 2; ring <= 8; ring++ {
		v := newDevice(ring)
		for i := range uint64(25) {
			for ops := range 3 {
				for mask := range uint64(2) {
					w := v.copy()
					w.d.Crash(mask)
					w.asked(t, "behind a crash ahead of a Put")
					w.fall(t, 1000+i, ops, mask, 1)
					for k := range uint64(2*ring + 1) {
						w.put(t, 2000+i+k)
						w.d.Crash(mask)
						w.asked(t, "behind a crash behind a Put")
					}
				}
			}
			v.put(t, i)
		}
	}
}

// What else is cached, ahead of the ring and behind it, has bits of its own.
func TestP7_3OthersAreCached(t *testing.T) {
	for ring := 2; ring <= 8; ring++ {
		for mask := range uint64(32) {
			v := newDevice(ring)
			for i := range uint64(10) {
				v.put(t, i)
				for _, at := range []int{0, 1, ring + 2, ring + 3} {
					v.d.Write(at, api.Sector{byte(i), byte(at)})
				}
				v.fall(t, 100+i, 1, mask, 1<<2)
				v.put(t, 200+i)
			}
		}
	}
}

// Each row of five, of all that can happen around a Put.
func TestP7_3AllShortRuns(t *testing.T) {
	happen := []func(v *device, word uint64){
		func(v *device, word uint64) { v.put(t, word) },
		func(v *device, word uint64) { v.fall(t, word, 0, all, 1) },
		func(v *device, word uint64) { v.fall(t, word, 1, 0, 1) },
		func(v *device, word uint64) { v.fall(t, word, 1, 1, 1) },
		func(v *device, word uint64) { v.fall(t, word, 2, 0, 1) },
	}
	for ring := 2; ring <= 4; ring++ {
		for i := range 5 * 5 * 5 * 5 * 5 {
			v := newDevice(ring)
			for k := range uint64(5) {
				happen[i%5](&v, 10+k)
				i /= 5
			}
		}
	}
}

func TestP7_3LongRuns(t *testing.T) {
	for ring := 2; ring <= 8; ring++ {
		v := newDevice(ring)
		for _, w := range sample.Words()[130:] {
			switch w % 8 {
			case 0, 1, 2:
				v.put(t, w)
			case 3:
				v.d.Crash(w >> 3)
				v.asked(t, "behind a crash")
			default:
				v.fall(t, w, int(w>>3%3), w>>5, 1)
			}
		}
	}
}
