package data_test

import (
	"bytes"
	"fmt"
	"testing"

	"twain/api"
	"twain/data"
	"twain/disk"
	"twain/sample"
)

// area is a disk, and what it must hold, held apart from it: the sectors ahead of the data, the bytes that are told, and those that no crash takes.
type area struct {
	d       *disk.Disk
	front   [8]api.Sector
	told    []byte
	durable []byte
}

// newArea: of a disk of that size, bytes in each sector.
func newArea(size int) *area {
	a := &area{d: sample.Filled(size)}
	for at := range a.front {
		a.front[at] = a.d.Durable(at)
	}
	a.told = read(a.d, whole(size))
	a.durable = bytes.Clone(a.told)
	return a
}

func (a *area) sectors() int { return len(a.told) / 16 }

// asked: do all calls tell what was written, and are the sectors ahead as they were?
func (a *area) asked(t *testing.T, what string) {
	t.Helper()
	n := a.sectors()
	shows(t, what, a.d, a.told)
	if got := data.Sectors(a.d); got != n {
		t.Errorf("%s: Sectors: %d, want %d", what, got, n)
	}
	for off := range n {
		for _, length := range []int{1, 2, 3, 5, n - off} {
			if length <= n-off {
				reads(t, what, a.d, api.Span{Off: off, Len: length}, a.told[16*off:16*(off+length)])
			}
		}
	}
	for e := range min(n/4, 64) {
		gets(t, what, a.d, e, a.told[64*e:64*e+64])
	}
	for at, want := range a.front {
		if got, err := a.d.Read(at); got != want || err != api.OK || a.d.Durable(at) != want {
			t.Errorf("%s: sector %d ahead of the data: %v, %v, want %v", what, at, got, err, want)
		}
	}
	for at := range n {
		if got := a.d.Durable(8 + at); got != api.Sector(a.durable[16*at:16*at+16]) {
			t.Errorf("%s: sector %d has %v durable, want %v", what, at, got, a.durable[16*at:16*at+16])
		}
	}
}

// write: b is written, and told.
func (a *area) write(t *testing.T, s api.Span, b []byte) {
	t.Helper()
	if err := data.Write(a.d, s, b); err != api.OK {
		t.Errorf("Write(%v): %v", s, err)
	}
	copy(a.told[16*s.Off:], b)
	a.asked(t, fmt.Sprintf("behind Write(%v)", s))
}

// set: the extent has the bytes of b, and they are told.
func (a *area) set(t *testing.T, e int, b []byte) {
	t.Helper()
	if err := data.SetExtent(a.d, e, b); err != api.OK {
		t.Errorf("SetExtent(%d): %v", e, err)
	}
	copy(a.told[64*e:], b)
	a.asked(t, fmt.Sprintf("behind SetExtent(%d)", e))
}

// flush: what is told no crash takes any more.
func (a *area) flush(t *testing.T) {
	t.Helper()
	if err := a.d.Flush(); err != api.OK {
		t.Errorf("Flush: %v", err)
	}
	copy(a.durable, a.told)
	a.asked(t, "behind a flush")
}

// crash: of the sectors for which something is cached each one has the new bytes, if its bit is in the mask, else the old ones.
func (a *area) crash(t *testing.T, mask uint64) {
	t.Helper()
	for i, at := range a.d.Cached() {
		if place := 16 * (at - 8); mask>>(i%64)&1 == 1 {
			copy(a.durable[place:place+16], a.told[place:])
		}
	}
	a.d.Crash(mask)
	copy(a.told, a.durable)
	a.asked(t, fmt.Sprintf("behind a crash that spares %#x", mask))
}

// Each span of small areas, written one behind the other.
func TestP12_3EachSpan(t *testing.T) {
	for _, size := range []int{9, 10, 12, 14, 17} {
		a := newArea(size)
		for off := range size - 8 {
			for length := 1; off+length <= size-8; length++ {
				a.write(t, api.Span{Off: off, Len: length}, sample.Pattern(9*off+length, length))
			}
		}
		for e := range (size - 8) / 4 {
			a.set(t, e, sample.Pattern(e, 4))
		}
	}
}

func TestP12_3WrittenOver(t *testing.T) {
	a := newArea(16)
	s := api.Span{Off: 2, Len: 4}
	a.write(t, s, sample.Pattern(1, 4))
	a.write(t, s, make([]byte, 64))
	a.write(t, s, bytes.Repeat([]byte{255}, 64))
	a.write(t, api.Span{Off: 3, Len: 2}, sample.Pattern(2, 2))
	a.write(t, api.Span{Off: 0, Len: 3}, sample.Pattern(3, 3))
	a.write(t, api.Span{Off: 5, Len: 3}, sample.Pattern(4, 3))
	a.set(t, 0, sample.Pattern(5, 4))
	a.set(t, 1, sample.Pattern(6, 4))
	a.write(t, api.Span{Off: 0, Len: 8}, sample.Pattern(7, 8))
}

// A byte alone is another one: at each place of a span.
func TestP12_3EachByte(t *testing.T) {
	s := api.Span{Off: 1, Len: 3}
	d := sample.Filled(16)
	want := read(d, whole(16))
	for i := range 48 {
		b := bytes.Clone(want[16:64])
		b[i]++
		want[16+i]++
		writes(t, "one byte", d, s, b)
		shows(t, "one byte", d, want)
	}
}

// What is written is told at once, and a crash takes it, as long as no flush came.
func TestP12_3ACrashBehindAWrite(t *testing.T) {
	for _, size := range []int{12, 24} {
		for _, mask := range []uint64{0, 1, 2, 4, 5, 8, 15, all - 1, all} {
			a := newArea(size)
			a.write(t, api.Span{Off: 0, Len: 4}, sample.Pattern(1, 4))
			a.crash(t, mask)
			a.write(t, api.Span{Off: size - 10, Len: 2}, sample.Pattern(2, 2))
			a.write(t, api.Span{Off: 1, Len: 1}, sample.Pattern(3, 1))
			a.crash(t, mask)
			a.set(t, 0, sample.Pattern(4, 4))
			a.crash(t, mask)
		}
	}
}

func TestP12_3ACrashBehindAFlush(t *testing.T) {
	for _, mask := range []uint64{0, 1, all} {
		a := newArea(24)
		a.write(t, api.Span{Off: 3, Len: 6}, sample.Pattern(1, 6))
		a.set(t, 3, sample.Pattern(2, 4))
		a.flush(t)
		a.crash(t, mask)
		a.write(t, api.Span{Off: 5, Len: 2}, sample.Pattern(3, 2))
		a.crash(t, mask)
		a.set(t, 1, sample.Pattern(4, 4))
		a.flush(t)
		a.crash(t, mask)
	}
}

// Of the plainest case, written out: what a Write leaves is cached, and durable only behind the flush.
func TestP12_3NotFlushed(t *testing.T) {
	d := sample.Disk(12)
	b := bytes.Repeat([]byte{1, 2, 3, 4}, 16)
	if err := data.Write(d, api.Span{Off: 0, Len: 4}, b); err != api.OK || fmt.Sprint(d.Cached()) != "[8 9 10 11]" || d.Durable(8) != (api.Sector{}) {
		t.Errorf("Write: %v, Cached %v, Durable(8) %v", err, d.Cached(), d.Durable(8))
	}
	reads(t, "cached", d, api.Span{Off: 0, Len: 4}, b)
	gets(t, "cached", d, 0, b)
	shows(t, "cached", d, b)
	taken := d.Copy()
	taken.Crash(0)
	reads(t, "taken", taken, api.Span{Off: 0, Len: 4}, make([]byte, 64))
	gets(t, "taken", taken, 0, make([]byte, 64))
	shows(t, "taken", taken, make([]byte, 64))
	d.Flush()
	d.Crash(0)
	reads(t, "flushed", d, api.Span{Off: 0, Len: 4}, b)
	gets(t, "flushed", d, 0, b)
	shows(t, "flushed", d, b)
}

// happen: what a word of no pattern chooses.
func (a *area) happen(t *testing.T, w uint64) {
	t.Helper()
	n := a.sectors()
	off := int(w >> 8 % uint64(n))
	length := 1 + int(w>>24%uint64(min(n-off, 8)))
	switch w % 16 {
	case 0:
		a.flush(t)
	case 1:
		a.crash(t, w>>8)
	case 2, 3, 4, 5:
		if n >= 4 {
			a.set(t, int(w>>8%uint64(min(n/4, 64))), sample.Pattern(int(w>>40%1000), 4))
		}
	case 6:
		a.write(t, api.Span{Off: 0, Len: n}, sample.Pattern(int(w>>40%1000), n))
	case 7:
		writeStays(t, "one sector too many", a.d, api.Span{Off: off, Len: n - off + 1}, sample.Pattern(1, n-off+1), api.ErrRange)
		writeStays(t, "one byte too few", a.d, api.Span{Off: off, Len: length}, sample.Pattern(1, length)[1:], api.ErrArg)
		setStays(t, "no such extent", a.d, (n+3)/4, make([]byte, 64), api.ErrRange)
		a.asked(t, "behind what is refused")
	default:
		a.write(t, api.Span{Off: off, Len: length}, sample.Pattern(int(w>>40%1000), length))
	}
}

func TestP12_3LongRuns(t *testing.T) {
	for _, size := range []int{9, 11, 12, 13, 24} {
		a := newArea(size)
		for _, w := range sample.Words()[130:530] {
			a.happen(t, w)
		}
	}
}

// The greatest disk, by its Image alone: the disk's own sectors are held against the bytes behind each run.
func TestP12_3TheGreatestDisk(t *testing.T) {
	d := sample.Filled(api.MaxDisk)
	want := read(d, whole(api.MaxDisk))
	for i, w := range sample.Words()[130:330] {
		off := int(w >> 8 % 1016)
		length := 1 + int(w>>24%uint64(1016-off))
		b := sample.Pattern(i, length)
		writes(t, "the greatest", d, api.Span{Off: off, Len: length}, b)
		copy(want[16*off:], b)
		shows(t, "the greatest", d, want)
		e := int(w >> 50 % 64)
		sets(t, "the greatest", d, e, sample.Pattern(i+1, 4))
		copy(want[64*e:], sample.Pattern(i+1, 4))
		shows(t, "the greatest", d, want)
	}
}

// Write and SetExtent neither change the bytes that are handed in, nor those behind their end, nor keep them.
func TestR3BytesHandedIn(t *testing.T) {
	for name, put := range map[string]func(d *disk.Disk, b []byte) api.Errno{
		"Write":     func(d *disk.Disk, b []byte) api.Errno { return data.Write(d, api.Span{Off: 4, Len: 4}, b) },
		"SetExtent": func(d *disk.Disk, b []byte) api.Errno { return data.SetExtent(d, 1, b) },
	} {
		for k := -1; k < 4; k++ {
			room := sample.Pattern(5, 6)
			d := sample.Filled(24)
			d.Fuse(k)
			if err := put(d, room[16:80]); (err == api.OK) != (k < 0) {
				t.Errorf("%s, with %d operations left: %v", name, k, err)
			}
			if !bytes.Equal(room, sample.Pattern(5, 6)) {
				t.Errorf("%s changed the bytes that were handed in, or those about them", name)
			}
			was := d.Copy()
			clear(room)
			if !sample.Alike(d, was) {
				t.Errorf("%s kept the bytes that were handed in", name)
			}
		}
		room := sample.Pattern(5, 6)
		if d := sample.Filled(24); put(d, room[:63]) != api.ErrArg || !bytes.Equal(room, sample.Pattern(5, 6)) {
			t.Errorf("%s of too few bytes changed them, or was not refused", name)
		}
	}
}

// What Read, Extent and Image answer is new memory at each call, its spare room too: whoever changes it changes neither the disk nor another answer.
func TestR3Answers(t *testing.T) {
	for name, get := range map[string]func(d *disk.Disk) []byte{
		"Read":   func(d *disk.Disk) []byte { b, _ := data.Read(d, api.Span{Off: 0, Len: 4}); return b },
		"Extent": func(d *disk.Disk) []byte { b, _ := data.Extent(d, 0); return b },
		"Image":  data.Image,
	} {
		d := sample.Filled(12)
		d.Write(9, api.Sector{1, 2, 3})
		was, want := d.Copy(), read(d, whole(12))
		first, second := get(d), get(d)
		clear(first[:cap(first)])
		if !bytes.Equal(second, want) || !bytes.Equal(get(d), want) || !sample.Alike(d, was) {
			t.Errorf("%s: an answer that was changed changed another one, or the disk", name)
		}
		clear(second[:cap(second)])
		if !bytes.Equal(get(d), want) || !sample.Alike(d, was) {
			t.Errorf("%s: an answer that was changed changed the disk", name)
		}
		third := get(d)
		data.Write(d, api.Span{Off: 0, Len: 4}, make([]byte, 64))
		if !bytes.Equal(third, want) {
			t.Errorf("%s: a Write changed what was told ahead of it", name)
		}
	}
}

// What the area tells hangs on its disk alone: disks that are asked in turn don't know of each other.
func TestR4DisksGoTheirOwnWays(t *testing.T) {
	one, other := newArea(12), newArea(16)
	for i := range 20 {
		one.write(t, api.Span{Off: i % 3, Len: 2}, sample.Pattern(i, 2))
		copied := one.d.Copy()
		writes(t, "a copy", copied, api.Span{Off: 0, Len: 4}, sample.Pattern(i+100, 4))
		other.set(t, i%2, sample.Pattern(i+50, 4))
		one.asked(t, "one")
		other.asked(t, "the other")
	}
}
