package disk_test

import (
	"fmt"
	"math"
	"slices"
	"testing"

	"twain/api"
	"twain/disk"
	"twain/sample"
)

const all = math.MaxUint64

// far: no disk has such sectors.
var far = []int{math.MinInt, math.MinInt32, -1025, -1024, -2, -1, api.MaxDisk, api.MaxDisk + 1, 1 << 20, math.MaxInt32, math.MaxInt - 1, math.MaxInt}

// reads: is that what the disk tells of a sector?
func reads(t *testing.T, d *disk.Disk, at int, want api.Sector) {
	t.Helper()
	if got, e := d.Read(at); got != want || e != api.OK {
		t.Errorf("Read(%d): %v, %v, want %v, OK", at, got, e, want)
	}
}

// is: was that the error?
func is(t *testing.T, what string, got, want api.Errno) {
	t.Helper()
	if got != want {
		t.Errorf("%s: %v, want %v", what, got, want)
	}
}

// holds: is that durable, and are those cached?
func holds(t *testing.T, d *disk.Disk, at int, durable api.Sector, cached ...int) {
	t.Helper()
	if got := d.Durable(at); got != durable {
		t.Errorf("Durable(%d): %v, want %v", at, got, durable)
	}
	if got := d.Cached(); !slices.Equal(got, cached) {
		t.Errorf("Cached: %v, want %v", got, cached)
	}
}

func TestP6_1New(t *testing.T) {
	for _, n := range []int{1, 2, 3, 63, 64, 65, 264, api.MaxDisk - 1, api.MaxDisk} {
		alike(t, made(t, n), newPlain(n))
	}
}

func TestP6_1NewOfNoSuchSize(t *testing.T) {
	for _, n := range []int{math.MinInt, math.MinInt32, -1024, -1, 0, api.MaxDisk + 1, 2 * api.MaxDisk, math.MaxInt32, math.MaxInt} {
		if d, e := disk.New(n); d != nil || e != api.ErrArg {
			t.Errorf("New(%d): %v, %v, want none, %v", n, d, e, api.ErrArg)
		}
	}
}

func TestP6_1WrittenReadFlushed(t *testing.T) {
	d := made(t, 8)
	is(t, "Write(3)", d.Write(3, api.Sector{7, 15: 9}), api.OK)
	reads(t, d, 3, api.Sector{7, 15: 9})
	holds(t, d, 3, api.Sector{}, 3)
	is(t, "Write(1)", d.Write(1, api.Sector{8}), api.OK)
	holds(t, d, 1, api.Sector{}, 1, 3)
	is(t, "Flush", d.Flush(), api.OK)
	reads(t, d, 1, api.Sector{8})
	reads(t, d, 2, api.Sector{})
	reads(t, d, 3, api.Sector{7, 15: 9})
	holds(t, d, 1, api.Sector{8})
	holds(t, d, 2, api.Sector{})
	holds(t, d, 3, api.Sector{7, 15: 9})
}

func TestP6_1FirstAndLastSector(t *testing.T) {
	for _, n := range []int{1, 2, 8, api.MaxDisk} {
		d := play(t, n, write(0, api.Sector{1}), flush(), write(n-1, api.Sector{2}), crash(1), write(n-1, api.Sector{3}), crash(0))
		reads(t, d, n-1, api.Sector{2})
		d = play(t, n, write(n-1, api.Sector{1}), flush(), write(0, api.Sector{2}), crash(1), write(0, api.Sector{3}), crash(0))
		reads(t, d, 0, api.Sector{2})
	}
}

func TestP6_1WrittenTwice(t *testing.T) {
	d := made(t, 8)
	d.Write(3, api.Sector{1})
	d.Write(3, api.Sector{2})
	reads(t, d, 3, api.Sector{2})
	holds(t, d, 3, api.Sector{}, 3)
	d.Flush()
	holds(t, d, 3, api.Sector{2})
	d.Write(3, api.Sector{3})
	reads(t, d, 3, api.Sector{3})
	holds(t, d, 3, api.Sector{2}, 3)
}

func TestP6_1WrittenOverWithNoughts(t *testing.T) {
	d := made(t, 8)
	d.Write(3, api.Sector{1})
	d.Flush()
	d.Write(3, api.Sector{})
	reads(t, d, 3, api.Sector{})
	holds(t, d, 3, api.Sector{1}, 3)
	d.Crash(0)
	reads(t, d, 3, api.Sector{1})
	d.Write(3, api.Sector{})
	d.Crash(1)
	reads(t, d, 3, api.Sector{})
	holds(t, d, 3, api.Sector{})
	d.Write(3, api.Sector{2})
	d.Write(3, api.Sector{})
	reads(t, d, 3, api.Sector{})
	d.Flush()
	holds(t, d, 3, api.Sector{})
}

// What is written is cached, even if it is what the sector has.
func TestP6_1WrittenAsItWas(t *testing.T) {
	d := made(t, 8)
	d.Write(2, api.Sector{})
	holds(t, d, 2, api.Sector{}, 2)
	d.Write(3, api.Sector{1})
	d.Flush()
	d.Write(3, api.Sector{1})
	holds(t, d, 3, api.Sector{1}, 3)
	d.Write(1, api.Sector{4})
	d.Write(4, api.Sector{5})
	// Of 1, 3 and 4 the third is spared: that 3 is cached counts.
	d.Crash(4)
	holds(t, d, 1, api.Sector{})
	holds(t, d, 4, api.Sector{5})
}

func TestP6_1CachedRises(t *testing.T) {
	d := made(t, api.MaxDisk)
	var want []int
	for _, w := range words(500) {
		at := int(w % api.MaxDisk)
		d.Write(at, api.Sector{byte(w)})
		want = append(want, at)
	}
	slices.Sort(want)
	if got := d.Cached(); !slices.Equal(got, slices.Compact(want)) {
		t.Errorf("Cached: %v, want %v", got, slices.Compact(want))
	}
}

func TestP6_1NoSuchSector(t *testing.T) {
	for _, n := range []int{1, 8, api.MaxDisk} {
		for _, broken := range []bool{false, true} {
			steps := []step{write(0, api.Sector{1}), flush(), write(n-1, api.Sector{2}), fuse(0)}
			if broken {
				steps = append(steps, flush())
			}
			d := play(t, n, steps...)
			for _, at := range append([]int{n}, far...) {
				if s, e := d.Read(at); s != (api.Sector{}) || e != api.ErrRange {
					t.Errorf("of %d sectors, Read(%d): %v, %v, want noughts, %v", n, at, s, e, api.ErrRange)
				}
				is(t, fmt.Sprintf("of %d sectors, Write(%d)", n, at), d.Write(at, api.Sector{3}), api.ErrRange)
				if s := d.Durable(at); s != (api.Sector{}) {
					t.Errorf("of %d sectors, Durable(%d): %v, want noughts", n, at, s)
				}
			}
			if got := d.Cached(); !slices.Equal(got, []int{n - 1}) || d.Broken() != broken || d.Ops() != 3 {
				t.Errorf("of %d sectors, behind what was refused: Cached %v, Broken %v, Ops %d, want %d, %v, 3", n, got, d.Broken(), d.Ops(), n-1, broken)
			}
		}
	}
}

func TestP6_1BrokenTellsWhatItHas(t *testing.T) {
	d := made(t, 8)
	d.Write(3, api.Sector{1})
	d.Flush()
	d.Write(3, api.Sector{2})
	d.Fuse(0)
	is(t, "Flush", d.Flush(), api.ErrDown)
	for at := range 8 {
		if s, e := d.Read(at); s != (api.Sector{}) || e != api.ErrDown {
			t.Errorf("Read(%d): %v, %v, want noughts, %v", at, s, e, api.ErrDown)
		}
		is(t, "Write", d.Write(at, api.Sector{3}), api.ErrDown)
	}
	is(t, "Flush", d.Flush(), api.ErrDown)
	holds(t, d, 3, api.Sector{1}, 3)
	if d.Size() != 8 || !d.Made() || !d.Broken() || d.Ops() != 3 {
		t.Errorf("Size %d, Made %v, Broken %v, Ops %d, want 8, true, true, 3", d.Size(), d.Made(), d.Broken(), d.Ops())
	}
}

func TestP6_1AllShortRuns(t *testing.T) {
	steps := few()
	for _, n := range []int{1, 2} {
		for i := range 13 * 13 * 13 * 13 {
			play(t, n, steps[i%13], steps[i/13%13], steps[i/169%13], steps[i/2197])
		}
	}
}

func TestP6_1LongRuns(t *testing.T) {
	for _, c := range []struct{ n, some int }{{1, 1}, {2, 2}, {7, 7}, {64, 64}, {100, 5}, {200, 200}, {api.MaxDisk, 100}} {
		d, p := made(t, c.n), newPlain(c.n)
		for i, w := range words(1500) {
			s := chance(w, c.n, c.some)
			if got, want := s.do(d), s.do(p); got != want {
				t.Fatalf("of %d sectors, step %d, %s: %v, want %v", c.n, i, s.name, got, want)
			}
			alike(t, d, p, s)
		}
	}
}

func TestP6_2Fuse(t *testing.T) {
	for k := range 10 {
		d := made(t, 8)
		d.Fuse(k)
		for i := range k {
			if i%3 == 2 {
				is(t, "Flush", d.Flush(), api.OK)
			} else {
				is(t, "Write", d.Write(i%8, api.Sector{byte(i)}), api.OK)
			}
			if d.Broken() || d.Ops() != i+1 {
				t.Errorf("Fuse(%d), behind %d operations: Broken %v, Ops %d", k, i+1, d.Broken(), d.Ops())
			}
		}
		is(t, "the operation behind the fuse", d.Write(0, api.Sector{9}), api.ErrDown)
		if !d.Broken() || d.Ops() != k {
			t.Errorf("Fuse(%d), burnt down: Broken %v, Ops %d, want true, %d", k, d.Broken(), d.Ops(), k)
		}
		is(t, "Write, broken", d.Write(0, api.Sector{9}), api.ErrDown)
		is(t, "Flush, broken", d.Flush(), api.ErrDown)
		if d.Ops() != k {
			t.Errorf("Fuse(%d), broken: Ops %d, want %d", k, d.Ops(), k)
		}
	}
}

// With no operation left the disk still tells what it has: it breaks at the next one.
func TestP6_2FuseOfNoughtIsNotBrokenYet(t *testing.T) {
	d := made(t, 8)
	d.Write(3, api.Sector{1})
	d.Fuse(0)
	if d.Broken() {
		t.Errorf("Broken ahead of an operation")
	}
	reads(t, d, 3, api.Sector{1})
	is(t, "Write", d.Write(3, api.Sector{2}), api.ErrDown)
	if !d.Broken() {
		t.Errorf("not Broken behind an operation that was not done")
	}
	// What was not done left no mark.
	d.Crash(all)
	reads(t, d, 3, api.Sector{1})
}

func TestP6_2AFlushThatBreaksFlushesNothing(t *testing.T) {
	d := made(t, 8)
	d.Write(3, api.Sector{1})
	d.Write(5, api.Sector{2})
	d.Fuse(0)
	is(t, "Flush", d.Flush(), api.ErrDown)
	holds(t, d, 3, api.Sector{}, 3, 5)
	d.Crash(0)
	reads(t, d, 3, api.Sector{})
	reads(t, d, 5, api.Sector{})
}

func TestP6_2FuseBelowNought(t *testing.T) {
	for _, k := range []int{-1, -2, -100, math.MinInt32, math.MinInt} {
		d := made(t, 8)
		d.Fuse(k)
		for i := range 1000 {
			is(t, "Write", d.Write(i%8, api.Sector{byte(i)}), api.OK)
			is(t, "Flush", d.Flush(), api.OK)
		}
		if d.Broken() || d.Ops() != 2000 {
			t.Errorf("Fuse(%d): Broken %v, Ops %d, want false, 2000", k, d.Broken(), d.Ops())
		}
	}
}

func TestP6_2FusesThatAreLong(t *testing.T) {
	for _, k := range []int{1000, math.MaxInt32, math.MaxInt} {
		d := made(t, 8)
		d.Fuse(k)
		for range 1000 {
			is(t, "Flush", d.Flush(), api.OK)
		}
		want := api.OK
		if k == 1000 {
			want = api.ErrDown
		}
		is(t, "Flush, behind 1000 operations", d.Flush(), want)
	}
}

func TestP6_2AFuseInThePlaceOfAnother(t *testing.T) {
	for _, c := range []struct{ first, second int }{{0, 2}, {2, 0}, {5, 1}, {1, 5}, {0, -1}, {3, -1}, {-1, 0}, {-1, 3}, {2, 2}, {0, 0}} {
		for done := range max(c.first, 0) + 1 {
			steps := []step{fuse(c.first)}
			steps = append(steps, slices.Repeat([]step{flush()}, done)...)
			steps = append(steps, fuse(c.second))
			steps = append(steps, slices.Repeat([]step{write(1, api.Sector{1}), flush()}, 5)...)
			d := play(t, 3, steps...)
			want := done + 10
			if c.second >= 0 {
				want = done + c.second
			}
			if d.Ops() != want {
				t.Errorf("Fuse(%d), %d operations, Fuse(%d): Ops %d, want %d", c.first, done, c.second, d.Ops(), want)
			}
		}
	}
}

func TestP6_2AFuseMendsNothing(t *testing.T) {
	for _, k := range []int{-1, 0, 1, 100} {
		d := made(t, 3)
		d.Fuse(0)
		is(t, "Flush", d.Flush(), api.ErrDown)
		d.Fuse(k)
		is(t, "Write, broken", d.Write(1, api.Sector{1}), api.ErrDown)
		is(t, "Flush, broken", d.Flush(), api.ErrDown)
		if !d.Broken() || d.Ops() != 0 {
			t.Errorf("broken, and Fuse(%d): Broken %v, Ops %d, want true, 0", k, d.Broken(), d.Ops())
		}
	}
}

func TestP6_2WhatIsRefusedIsNoOperation(t *testing.T) {
	d := made(t, 8)
	d.Fuse(2)
	for _, at := range append([]int{8}, far...) {
		is(t, "Write", d.Write(at, api.Sector{1}), api.ErrRange)
	}
	for range 10 {
		d.Read(0)
		d.Durable(0)
		d.Cached()
		d.Copy().Write(0, api.Sector{1})
	}
	if d.Broken() || d.Ops() != 0 {
		t.Errorf("Broken %v, Ops %d, want false, 0", d.Broken(), d.Ops())
	}
	is(t, "the first operation", d.Write(0, api.Sector{1}), api.OK)
	is(t, "the second operation", d.Flush(), api.OK)
	is(t, "a Write of no sector", d.Write(8, api.Sector{1}), api.ErrRange)
	if d.Broken() || d.Ops() != 2 {
		t.Errorf("Broken %v, Ops %d, want false, 2", d.Broken(), d.Ops())
	}
	is(t, "the third operation", d.Write(0, api.Sector{1}), api.ErrDown)
	if !d.Broken() || d.Ops() != 2 {
		t.Errorf("Broken %v, Ops %d, want true, 2", d.Broken(), d.Ops())
	}
}

func TestP6_2OpsCountEver(t *testing.T) {
	d := play(t, 8, write(3, api.Sector{1}), flush(), flush(), crash(0), write(3, api.Sector{1}), fuse(1), flush(), flush(), flush(), crash(all), flush(), write(9, api.Sector{}))
	if d.Ops() != 6 {
		t.Errorf("Ops: %d, want 6", d.Ops())
	}
}

func TestP6_3CrashByExample(t *testing.T) {
	d := made(t, 8)
	d.Write(3, api.Sector{7})
	d.Write(5, api.Sector{8})
	d.Crash(2)
	holds(t, d, 3, api.Sector{})
	holds(t, d, 5, api.Sector{8})
	reads(t, d, 3, api.Sector{})
	reads(t, d, 5, api.Sector{8})
}

func TestP6_3Crash(t *testing.T) {
	for _, mask := range append(sample.Words()[:200], 5, 6, 1<<63|1) {
		// The order in which they are written does not count; what was durable is there where the mask has no bit.
		for _, order := range [][]int{{1, 4, 6}, {6, 4, 1}, {4, 6, 1}, {1, 1, 6, 4, 1}} {
			d := made(t, 8)
			for at := range 8 {
				d.Write(at, api.Sector{100, byte(at)})
			}
			d.Flush()
			for _, at := range order {
				d.Write(at, api.Sector{200, byte(at)})
			}
			d.Crash(mask)
			for at := range 8 {
				want := api.Sector{100, byte(at)}
				if i := slices.Index([]int{1, 4, 6}, at); i >= 0 && mask>>i%2 == 1 {
					want[0] = 200
				}
				reads(t, d, at, want)
				holds(t, d, at, want)
			}
		}
	}
}

func TestP6_3CrashOfMoreThan64(t *testing.T) {
	for _, n := range []int{63, 64, 65, 127, 128, 129, 300, api.MaxDisk} {
		for _, mask := range append(sample.Words()[:140], all>>1, 1<<63|1) {
			d := made(t, n)
			for at := n - 1; at >= 0; at-- {
				d.Write(at, api.Sector{byte(at), byte(at >> 8), 1})
			}
			d.Crash(mask)
			for at := range n {
				var want api.Sector
				if mask&(1<<(at%64)) != 0 {
					want = api.Sector{byte(at), byte(at >> 8), 1}
				}
				if got := d.Durable(at); got != want {
					t.Fatalf("of %d sectors, Crash(%#x): Durable(%d): %v, want %v", n, mask, at, got, want)
				}
			}
			holds(t, d, n, api.Sector{})
		}
	}
}

// The bits go by places among what is cached, not by the sectors' numbers.
func TestP6_3CrashOfMoreThan64Scattered(t *testing.T) {
	var steps []step
	for i := range 150 {
		steps = append(steps, write(i*i%1021, api.Sector{byte(i), 1}))
	}
	for _, mask := range []uint64{0, 1, 2, 1 << 63, 1<<63 | 1, 0x5555555555555555, all - 1, all} {
		d, p := made(t, api.MaxDisk), newPlain(api.MaxDisk)
		for _, s := range append(steps, crash(mask)) {
			s.do(d)
			s.do(p)
		}
		alike(t, d, p, crash(mask))
	}
}

func TestP6_3CrashWithNothingCached(t *testing.T) {
	for _, mask := range []uint64{0, 1, 1 << 63, all} {
		play(t, 8, crash(mask), flush(), crash(mask), write(0, api.Sector{1}), flush(), flush(), crash(mask), crash(mask))
	}
}

func TestP6_3CrashMends(t *testing.T) {
	for _, mask := range []uint64{0, 1, 1 << 63, all} {
		for _, operations := range []int{0, 1} {
			d := made(t, 8)
			d.Write(3, api.Sector{1})
			d.Fuse(0)
			for range operations {
				is(t, "Flush", d.Flush(), api.ErrDown)
			}
			d.Crash(mask)
			if d.Broken() {
				t.Errorf("Broken behind Crash(%#x)", mask)
			}
			for range 100 {
				is(t, "Write, behind a crash", d.Write(3, api.Sector{2}), api.OK)
				is(t, "Flush, behind a crash", d.Flush(), api.OK)
			}
			if d.Ops() != 201 {
				t.Errorf("Ops: %d, want 201", d.Ops())
			}
		}
	}
}

// changes: what may be done to one of two that were alike.
func changes() [][]step {
	return [][]step{
		{write(0, api.Sector{50})},
		{write(1, api.Sector{})},
		{write(2, api.Sector{51})},
		{flush()},
		{crash(0)},
		{crash(1)},
		{crash(all)},
		{fuse(0)},
		{fuse(0), flush()},
		{fuse(0), write(3, api.Sector{52}), crash(1)},
		{fuse(-1)},
		{write(2, api.Sector{}), flush(), write(0, api.Sector{53})},
	}
}

// done: a disk of four sectors, and a plain one, with those steps done.
func done(t *testing.T, steps ...step) (*disk.Disk, *plain) {
	t.Helper()
	d, p := made(t, 4), newPlain(4)
	for _, s := range steps {
		s.do(d)
		s.do(p)
	}
	return d, p
}

func TestP6_3CopyGoesItsOwnWay(t *testing.T) {
	then := []step{write(3, api.Sector{60}), flush(), write(2, api.Sector{61}), flush(), crash(0), flush()}
	for _, begun := range [][]step{
		nil,
		{write(0, api.Sector{1}), write(2, api.Sector{2}), flush()},
		{write(0, api.Sector{1}), write(2, api.Sector{2}), flush(), write(0, api.Sector{3}), write(1, api.Sector{4})},
		{write(0, api.Sector{1}), fuse(2)},
		{write(1, api.Sector{1}), flush(), write(2, api.Sector{2}), fuse(0), flush()},
	} {
		for _, change := range changes() {
			for _, first := range []bool{true, false} {
				d, p := done(t, begun...)
				_, p2 := done(t, begun...)
				d2 := d.Copy()
				alike(t, d2, p2, begun...)
				if !first {
					d, d2 = d2, d
				}
				for _, s := range change {
					is(t, s.name, s.do(d), s.do(p))
				}
				alike(t, d2, p2, begun...)
				// The fuses are not to be seen but in what comes now.
				for _, s := range then {
					is(t, s.name, s.do(d2), s.do(p2))
					alike(t, d, p, change...)
					alike(t, d2, p2, then...)
				}
				for _, s := range then {
					is(t, s.name, s.do(d), s.do(p))
					alike(t, d, p, then...)
				}
				alike(t, d2, p2, then...)
			}
		}
	}
}

func TestP6_3CopyOfACopy(t *testing.T) {
	begun := []step{write(0, api.Sector{1}), flush(), write(0, api.Sector{2})}
	d, _ := done(t, begun...)
	list := []*disk.Disk{d}
	for i := range 5 {
		list = append(list, list[i].Copy())
	}
	for i, d := range list {
		is(t, "Write", d.Write(3, api.Sector{byte(i)}), api.OK)
	}
	for i, d := range list {
		_, p := done(t, append(begun, write(3, api.Sector{byte(i)}))...)
		alike(t, d, p)
	}
}

// branch: from a disk of two sectors, to which those steps were done, all runs of so many more, each on a copy.
func branch(t *testing.T, d *disk.Disk, did []step, more int) {
	t.Helper()
	if more > 0 {
		for _, s := range few() {
			other := d.Copy()
			s.do(other)
			branch(t, other, append(slices.Clip(did), s), more-1)
		}
	}
	p := newPlain(2)
	for _, s := range did {
		s.do(p)
	}
	alike(t, d, p, did...)
}

func TestP6_3CopiesOfAllShortRuns(t *testing.T) {
	branch(t, made(t, 2), nil, 4)
}

// What a sector holds behind a crash: what was flushed last, or something that was written since.
func TestP6_4WhatWasFlushedIsThereBehindAnyCrash(t *testing.T) {
	for _, mask := range append(sample.Words()[:140], 5, 1<<63|1) {
		d := made(t, 100)
		flushed := make([]api.Sector, 100)
		for round := range 4 {
			for at := round; at < 100; at += round + 1 {
				flushed[at] = api.Sector{byte(round), byte(at), 1}
				d.Write(at, flushed[at])
			}
			is(t, "Flush", d.Flush(), api.OK)
			for at := 0; at < 100; at += 3 {
				d.Write(at, api.Sector{99})
			}
			if round%2 == 1 {
				d.Fuse(0)
				is(t, "Flush", d.Flush(), api.ErrDown)
			}
			d.Crash(mask)
			for at := range 100 {
				got, e := d.Read(at)
				if spared := got == (api.Sector{99}) && at%3 == 0; e != api.OK || got != flushed[at] && !spared {
					t.Fatalf("round %d, Crash(%#x): Read(%d): %v, %v, want %v", round, mask, at, got, e, flushed[at])
				}
				flushed[at] = got
			}
		}
	}
}

// Crash upon crash takes nothing more, and nothing comes back that a crash took.
func TestP6_4CrashUponCrash(t *testing.T) {
	d := made(t, 8)
	d.Write(3, api.Sector{1})
	d.Flush()
	d.Write(3, api.Sector{2})
	d.Crash(0)
	for _, mask := range sample.Words() {
		d.Crash(mask)
		reads(t, d, 3, api.Sector{1})
		holds(t, d, 3, api.Sector{1})
	}
	d.Write(3, api.Sector{3})
	d.Crash(1)
	for _, mask := range sample.Words() {
		d.Crash(mask)
		reads(t, d, 3, api.Sector{3})
	}
}

func TestP6_4UntilItIsWrittenOver(t *testing.T) {
	var steps []step
	for i := range 50 {
		steps = append(steps, write(3, api.Sector{byte(i)}), flush(), write(5, api.Sector{byte(i)}), crash(uint64(i)), fuse(i%4), write(5, api.Sector{100}), flush(), write(4, api.Sector{1}), flush())
		d := play(t, 8, append(steps, crash(all))...)
		reads(t, d, 3, api.Sector{byte(i)})
		steps = append(steps, crash(0))
	}
}

func TestR3WhatCachedToldIsTheCallers(t *testing.T) {
	d := made(t, 8)
	for _, at := range []int{1, 4, 6} {
		d.Write(at, api.Sector{byte(at)})
	}
	one, two := d.Cached(), d.Cached()
	one = one[:cap(one)]
	for i := range one {
		one[i] = 7
	}
	if want := []int{1, 4, 6}; !slices.Equal(two, want) || !slices.Equal(d.Cached(), want) {
		t.Errorf("Cached's answer is changed, and another one is %v, and the next %v, want %v", two, d.Cached(), want)
	}
	d.Crash(2)
	if want := []int{1, 4, 6}; !slices.Equal(two, want) {
		t.Errorf("Cached's answer, behind a crash: %v, was %v", two, want)
	}
	reads(t, d, 1, api.Sector{})
	reads(t, d, 4, api.Sector{4})
	reads(t, d, 6, api.Sector{})
	reads(t, d, 7, api.Sector{})
}

func TestR5ADiskThatNoCallMade(t *testing.T) {
	for _, d := range []*disk.Disk{nil, {}, new(disk.Disk)} {
		// Twice: no call makes it.
		for range 2 {
			for _, at := range append([]int{0, 1, 7}, far...) {
				if s, e := d.Read(at); s != (api.Sector{}) || e != api.ErrMade {
					t.Errorf("Read(%d): %v, %v, want noughts, %v", at, s, e, api.ErrMade)
				}
				is(t, "Write", d.Write(at, api.Sector{1}), api.ErrMade)
				if s := d.Durable(at); s != (api.Sector{}) {
					t.Errorf("Durable(%d): %v, want noughts", at, s)
				}
			}
			is(t, "Flush", d.Flush(), api.ErrMade)
			for _, k := range []int{0, 1, -1, math.MinInt, math.MaxInt} {
				d.Fuse(k)
				is(t, "Flush", d.Flush(), api.ErrMade)
			}
			for _, mask := range []uint64{0, 1, 1 << 63, all} {
				d.Crash(mask)
			}
			if d.Made() || d.Size() != 0 || d.Broken() || d.Ops() != 0 || len(d.Cached()) != 0 || d.Copy() != nil {
				t.Errorf("Made %v, Size %d, Broken %v, Ops %d, Cached %v, Copy %v, want noughts of all", d.Made(), d.Size(), d.Broken(), d.Ops(), d.Cached(), d.Copy())
			}
			if d != nil && fmt.Sprint(*d) != fmt.Sprint(disk.Disk{}) {
				t.Errorf("a zero Disk became %v", *d)
			}
		}
	}
}
