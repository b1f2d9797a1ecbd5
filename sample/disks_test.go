package sample_test

import (
	"bytes"
	"testing"

	"twain/api"
	"twain/disk"
	"twain/sample"
	"twain/seal"
)

func TestDisk(t *testing.T) {
	for _, n := range []int{1, 8, api.MaxDisk} {
		if d := sample.Disk(n); d.Size() != n || len(d.Cached()) != 0 || d.Ops() != 0 {
			t.Errorf("Disk(%d): of %d sectors, Cached %v, Ops %d", n, d.Size(), d.Cached(), d.Ops())
		}
	}
	for _, n := range []int{-1, 0, api.MaxDisk + 1} {
		if d := sample.Disk(n); d != nil {
			t.Errorf("Disk(%d): of %d sectors, want none", n, d.Size())
		}
	}
}

func TestLayAndBroken(t *testing.T) {
	d := sample.Disk(4)
	d.Write(1, api.Sector{1})
	sample.Lay(d, 2, api.Sector{2})
	if d.Durable(1) != (api.Sector{1}) || d.Durable(2) != (api.Sector{2}) || len(d.Cached()) != 0 {
		t.Errorf("Lay: %v, %v, Cached %v", d.Durable(1), d.Durable(2), d.Cached())
	}
	d.Write(3, api.Sector{3})
	ops := d.Ops()
	if b := sample.Broken(d); b != d || !d.Broken() || d.Ops() != ops || len(d.Cached()) != 1 || d.Durable(3) != (api.Sector{}) {
		t.Errorf("Broken: %v, Ops %d, Cached %v, %v", d.Broken(), d.Ops(), d.Cached(), d.Durable(3))
	}
}

// Each kind has others, as many as the sectors have, and the same ones at each call.
func TestPattern(t *testing.T) {
	seen := map[string]int{}
	for kind := range 200 {
		for _, n := range []int{1, 4, 8} {
			b := sample.Pattern(kind, n)
			if len(b) != 16*n || !bytes.Equal(b, sample.Pattern(kind, n)) {
				t.Errorf("Pattern(%d, %d): %d bytes: %v", kind, n, len(b), b)
			}
			if other, there := seen[string(b)]; there {
				t.Errorf("Pattern(%d, %d) is that of %d", kind, n, other)
			}
			seen[string(b)] = kind
		}
	}
}

// All sectors have bytes of their own, which are durable, and no ring has a record.
func TestFilled(t *testing.T) {
	for _, size := range []int{1, 8, 12, api.MaxDisk} {
		d := sample.Filled(size)
		seen := map[api.Sector]int{{}: -1}
		for at := range size {
			s := d.Durable(at)
			if other, there := seen[s]; there {
				t.Errorf("Filled(%d): sector %d is alike to %d", size, at, other)
			}
			seen[s] = at
			if _, _, ok := seal.Open(s); ok {
				t.Errorf("Filled(%d): sector %d is a record", size, at)
			}
		}
		if d.Size() != size || len(d.Cached()) != 0 || d.Broken() {
			t.Errorf("Filled(%d): of %d sectors, Cached %v, Broken %v", size, d.Size(), d.Cached(), d.Broken())
		}
	}
}

func TestAlike(t *testing.T) {
	start := func() *disk.Disk {
		d, _ := disk.New(4)
		d.Write(1, api.Sector{1})
		d.Flush()
		d.Write(2, api.Sector{2})
		return d
	}
	if d := start(); !sample.Alike(d, d.Copy()) || !sample.Alike(d, start()) || !sample.Alike(nil, &disk.Disk{}) {
		t.Errorf("disks that are alike are told apart")
	}
	for what, do := range map[string]func(d *disk.Disk){
		"is broken":              func(d *disk.Disk) { d.Fuse(0); d.Flush() },
		"is flushed":             func(d *disk.Disk) { d.Flush() },
		"has done more":          func(d *disk.Disk) { d.Write(2, api.Sector{2}) },
		"has lost its cache":     func(d *disk.Disk) { d.Crash(0) },
		"was spared its cache":   func(d *disk.Disk) { d.Crash(1) },
		"has another one cached": func(d *disk.Disk) { d.Write(3, api.Sector{2}) },
	} {
		d := start()
		do(d)
		if sample.Alike(d, start()) || sample.Alike(start(), d) {
			t.Errorf("a disk that %s is told to be as it was", what)
		}
	}
}

// As many operations, the same sectors cached, and yet another sector: by what is cached, and by what is durable.
func TestAlikeSectorBySector(t *testing.T) {
	write := func(first, second byte) *disk.Disk {
		d, _ := disk.New(4)
		d.Write(3, api.Sector{15: first})
		d.Flush()
		d.Write(3, api.Sector{15: second})
		return d
	}
	if !sample.Alike(write(1, 2), write(1, 2)) || sample.Alike(write(1, 2), write(1, 3)) || sample.Alike(write(1, 2), write(3, 2)) {
		t.Errorf("sectors are not told apart")
	}
	few, _ := disk.New(4)
	many, _ := disk.New(5)
	if sample.Alike(few, many) || sample.Alike(many, few) {
		t.Errorf("sizes are not told apart")
	}
}

// Of each disk just so many extents from 0 on, and each has the bytes of its own four sectors, cached ones too.
func TestHasExtentAndExtentBytes(t *testing.T) {
	for _, size := range []int{1, 8, 11, 12, 15, 16, 263, 264, api.MaxDisk} {
		d := sample.Filled(size)
		d.Write(size-1, api.Sector{1})
		count := min(max(size-8, 0)/4, 64)
		for e := -3; e < 70; e++ {
			if got := sample.HasExtent(d, e); got != (e >= 0 && e < count) {
				t.Errorf("HasExtent(%d) of %d sectors: %v", e, size, got)
			}
		}
		for e := range count {
			b := sample.ExtentBytes(d, e)
			for i := range 4 {
				if s, _ := d.Read(8 + 4*e + i); len(b) != 64 || api.Sector(b[16*i:]) != s {
					t.Errorf("ExtentBytes(%d) of %d sectors: %v", e, size, b)
				}
			}
		}
	}
	if sample.HasExtent(nil, 0) || sample.HasExtent(sample.Disk(264), 1<<62) {
		t.Error("HasExtent: true, where there is none")
	}
}

// The log and the bitmap tell that, durable, and all other sectors are as Filled has them.
func TestKnowing(t *testing.T) {
	for _, size := range []int{8, 12, 24, api.MaxDisk} {
		d, was := sample.Knowing(size, 5, 9), sample.Filled(size)
		if sample.RingWord(d, 2, 4) != 5 || sample.RingWord(d, 6, 2) != 9 || len(d.Cached()) != 0 {
			t.Errorf("of %d sectors: the log %#x, the bitmap %#x, Cached %v", size, sample.RingWord(d, 2, 4), sample.RingWord(d, 6, 2), d.Cached())
		}
		others := 0
		for at := range size {
			if d.Durable(at) != was.Durable(at) {
				others++
			}
		}
		if others != 2 {
			t.Errorf("of %d sectors: %d are not as Filled has them", size, others)
		}
	}
}
