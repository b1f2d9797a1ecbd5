package data_test

import (
	"bytes"
	"fmt"
	"slices"
	"testing"

	"twain/api"
	"twain/data"
	"twain/disk"
	"twain/sample"
)

func TestP12_1Example(t *testing.T) {
	d := sample.Disk(12)
	if n := data.Sectors(d); n != 4 {
		t.Errorf("Sectors of a disk of 12: %d, want 4", n)
	}
	if err := data.Write(d, api.Span{Off: 3, Len: 2}, make([]byte, 32)); err != api.ErrRange || d.Ops() != 0 {
		t.Errorf("Write of 2 sectors at 3: %v, Ops %d, want %v, 0", err, d.Ops(), api.ErrRange)
	}
	if err := data.Write(d, api.Span{Off: 2, Len: 2}, make([]byte, 32)); err != api.OK || d.Ops() != 2 {
		t.Errorf("Write of 2 sectors at 2: %v, Ops %d, want OK, 2", err, d.Ops())
	}
}

func TestP12_1Sectors(t *testing.T) {
	for size := 1; size <= api.MaxDisk; size++ {
		want := 0
		for at := range size {
			if at >= 8 {
				want++
			}
		}
		d := sample.Disk(size)
		if got := data.Sectors(d); got != want {
			t.Errorf("Sectors of a disk of %d: %d, want %d", size, got, want)
		}
		if got := data.Sectors(sample.Broken(d)); got != want {
			t.Errorf("Sectors of a broken disk of %d: %d, want %d", size, got, want)
		}
	}
}

func TestP12_1AFreshDisk(t *testing.T) {
	for _, size := range []int{9, 10, 12, 24, 264, api.MaxDisk} {
		d := sample.Disk(size)
		n := size - 8
		reads(t, "fresh", d, api.Span{Off: 0, Len: 1}, make([]byte, 16))
		reads(t, "fresh", d, api.Span{Off: n - 1, Len: 1}, make([]byte, 16))
		reads(t, "fresh", d, whole(size), make([]byte, 16*n))
		shows(t, "fresh", d, make([]byte, 16*n))
	}
}

// Sector 0 of a span is the disk's sector 8, and so on: the disk itself tells what is written there, and is told.
func TestP12_1WhereTheSectorsStand(t *testing.T) {
	for _, size := range []int{9, 10, 13, 24, 264, api.MaxDisk} {
		for _, i := range []int{0, 1, 2, 3, 4, 15, 16, 255, 256, 1015} {
			if i >= size-8 {
				continue
			}
			d := sample.Filled(size)
			s, b := api.Span{Off: i, Len: 1}, sample.Pattern(i, 1)
			writes(t, "one sector", d, s, b)
			if got, _ := d.Read(8 + i); got != api.Sector(b) || !slices.Equal(d.Cached(), []int{8 + i}) {
				t.Errorf("Write(%v) of %d sectors: the disk's sector %d: %v, want %v, Cached %v", s, size, 8+i, got, b, d.Cached())
			}
			d.Write(8+i, api.Sector{byte(i), 15: 9})
			sector := api.Sector{byte(i), 15: 9}
			reads(t, "one sector", d, s, sector[:])
		}
	}
}

// Each span that there is of small disks, and each one beside them.
func TestP12_1EachSpan(t *testing.T) {
	for _, size := range []int{1, 7, 8, 9, 10, 12, 13, 17} {
		n := size - 8
		d := sample.Filled(size)
		what := fmt.Sprintf("of %d sectors", size)
		for off := -2; off <= n+2; off++ {
			for length := -2; length <= n+2; length++ {
				s := api.Span{Off: off, Len: length}
				b := sample.Pattern(off+2, max(length, 0))
				if off < 0 || length < 1 || off+length > n {
					readFails(t, what, d, s, api.ErrRange)
					writeStays(t, what, d, s, b, api.ErrRange)
					continue
				}
				reads(t, what, d, s, read(d, s))
				writes(t, what, d, s, b)
				reads(t, what, d, s, b)
			}
		}
	}
}

// The first sector, the last one, what just ends where the area does, and what ends one sector behind it.
func TestP12_1TheEndsOfTheArea(t *testing.T) {
	for _, size := range []int{9, 10, 12, 13, 264, api.MaxDisk - 1, api.MaxDisk} {
		n := size - 8
		d := sample.Filled(size)
		what := fmt.Sprintf("of %d sectors", size)
		for i, s := range []api.Span{{Off: 0, Len: 1}, {Off: n - 1, Len: 1}, {Off: max(n-2, 0), Len: min(n, 2)}, {Off: max(n-8, 0), Len: min(n, 8)}, {Off: n / 2, Len: n - n/2}, {Off: 0, Len: n}} {
			reads(t, what, d, s, read(d, s))
			writes(t, what, d, s, sample.Pattern(i, s.Len))
			reads(t, what, d, s, sample.Pattern(i, s.Len))
		}
		for _, s := range []api.Span{{Off: n, Len: 1}, {Off: n - 1, Len: 2}, {Off: n / 2, Len: n - n/2 + 1}, {Off: 1, Len: n}, {Off: 0, Len: n + 1}, {Off: n + 1, Len: 1}, {Off: n, Len: 8}} {
			readFails(t, what, d, s, api.ErrRange)
			writeStays(t, what, d, s, sample.Pattern(1, s.Len), api.ErrRange)
		}
	}
}

// A disk of eight sectors or fewer has no data, whatever stands on it.
func TestP12_1NoData(t *testing.T) {
	for size := 1; size <= 8; size++ {
		d := sample.Filled(size)
		d.Write(size-1, api.Sector{3})
		what := fmt.Sprintf("of %d sectors", size)
		for _, s := range append(noSpans(), api.Span{Off: 0, Len: 1}, api.Span{Off: 0, Len: 4}, api.Span{Off: 0, Len: 8}, api.Span{Off: 1, Len: 1}, api.Span{Off: 7, Len: 1}, api.Span{Off: 8, Len: 1}) {
			readFails(t, what, d, s, api.ErrRange)
			for _, n := range []int{0, 16, 64} {
				writeStays(t, what, d, s, make([]byte, n), api.ErrRange)
			}
		}
		showsNothing(t, what, d)
		getFails(t, what, d, 0, api.ErrRange)
		setStays(t, what, d, 0, make([]byte, 64), api.ErrRange)
	}
}

// Spans that no disk has are refused, as long as the bytes may be, and the fuse does not burn down.
func TestP12_1NoSuchSpan(t *testing.T) {
	for _, size := range []int{9, 12, 264, api.MaxDisk} {
		d := sample.Filled(size)
		d.Write(0, api.Sector{1})
		d.Fuse(1)
		what := fmt.Sprintf("of %d sectors", size)
		for _, s := range noSpans() {
			readFails(t, what, d, s, api.ErrRange)
			for _, n := range []int{0, 1, 16, 128, 144} {
				writeStays(t, what, d, s, make([]byte, n), api.ErrRange)
			}
		}
		writes(t, what, d, api.Span{Off: 0, Len: 1}, sample.Pattern(1, 1))
		if d.Broken() {
			t.Errorf("%s: what was refused burnt the fuse down", what)
		}
	}
}

func TestP12_1TooFewOrTooManyBytes(t *testing.T) {
	for _, size := range []int{9, 12, 13, api.MaxDisk} {
		d := sample.Filled(size)
		d.Write(size-1, api.Sector{1})
		d.Fuse(1)
		what := fmt.Sprintf("of %d sectors", size)
		for _, s := range []api.Span{{Off: 0, Len: 1}, {Off: size - 9, Len: 1}, {Off: 0, Len: 3}, {Off: 1, Len: 3}, whole(size)} {
			if s.Off+s.Len > size-8 {
				continue
			}
			fits := 16 * s.Len
			for _, n := range []int{0, 1, s.Len, 15, 17, fits - 16, fits - 15, fits - 1, fits + 1, fits + 15, fits + 16, 2 * fits, fits * fits} {
				if n != fits {
					writeStays(t, what, d, s, make([]byte, n), api.ErrArg)
				}
			}
			writeStays(t, what, d, s, nil, api.ErrArg)
			writeStays(t, what, d, s, []byte{}, api.ErrArg)
			// Bytes that lie behind the list's end are none of it.
			writeStays(t, what, d, s, make([]byte, fits)[:fits-1], api.ErrArg)
		}
		writes(t, what, d, api.Span{Off: 0, Len: 1}, sample.Pattern(1, 1))
		if d.Broken() {
			t.Errorf("%s: what was refused burnt the fuse down", what)
		}
	}
}

// The disk breaks at each of a Write's sectors, the first and the last one among them, and not at all: what was written ahead stays, and nothing else was.
func TestP12_1TheDiskBreaks(t *testing.T) {
	for _, s := range []api.Span{{Off: 0, Len: 1}, {Off: 3, Len: 1}, {Off: 0, Len: 4}, {Off: 1, Len: 3}, {Off: 4, Len: 4}, {Off: 2, Len: 8}, {Off: 0, Len: 16}} {
		for k := range s.Len + 2 {
			for spares := range uint64(4) {
				d := sample.Filled(24)
				was, b := d.Copy(), sample.Pattern(k, s.Len)
				d.Fuse(k)
				what := fmt.Sprintf("%d operations left", k)
				writes(t, what, d, s, b)
				if d.Broken() != (k < s.Len) || d.Ops() != was.Ops()+min(k, s.Len) {
					t.Errorf("%s: Write(%v): Broken %v, %d operations", what, s, d.Broken(), d.Ops()-was.Ops())
				}
				if d.Broken() {
					readFails(t, what, d, s, api.ErrDown)
					showsNothing(t, what, d)
				}
				d.Crash(spares)
				for i := range s.Len {
					want := was.Durable(8 + s.Off + i)
					if i < k && spares>>i&1 == 1 {
						want = api.Sector(b[16*i : 16*i+16])
					}
					if got := d.Durable(8 + s.Off + i); got != want {
						t.Errorf("%s, and a crash that spares %d: sector %d of %v: %v, want %v", what, spares, i, s, got, want)
					}
				}
			}
		}
	}
}

// The same, by a crash that spares all: the first sectors have the new bytes, the others the old ones.
func TestP12_1WhatWasWrittenAheadStays(t *testing.T) {
	s := api.Span{Off: 1, Len: 5}
	for k := range s.Len + 1 {
		d := sample.Filled(16)
		want, b := read(d, whole(16)), sample.Pattern(3, s.Len)
		copy(want[16:], b[:16*k])
		d.Fuse(k)
		if err := data.Write(d, s, b); (err == api.ErrDown) != (k < s.Len) || (err == api.OK) != (k == s.Len) {
			t.Errorf("Write with %d operations left: %v", k, err)
		}
		d.Crash(all)
		shows(t, fmt.Sprintf("%d sectors were written", k), d, want)
	}
}

func TestP12_1ABrokenDisk(t *testing.T) {
	for _, size := range []int{9, 12, 24, api.MaxDisk} {
		d := sample.Filled(size)
		d.Write(8, api.Sector{1})
		d.Write(size-1, api.Sector{2})
		told := read(d, whole(size))
		d.Fuse(0)
		reads(t, "no operation left", d, whole(size), told)
		shows(t, "no operation left", d, told)
		sample.Broken(d)
		for range 2 {
			for _, s := range []api.Span{{Off: 0, Len: 1}, {Off: size - 9, Len: 1}, whole(size)} {
				readFails(t, "broken", d, s, api.ErrDown)
				writeStays(t, "broken", d, s, sample.Pattern(1, s.Len), api.ErrDown)
			}
			for _, s := range append(noSpans(), api.Span{Off: size - 8, Len: 1}, api.Span{Off: 1, Len: size - 8}) {
				readFails(t, "broken", d, s, api.ErrRange)
				writeStays(t, "broken", d, s, sample.Pattern(1, 1), api.ErrRange)
			}
			showsNothing(t, "broken", d)
			d.Fuse(9)
		}
		d.Crash(all)
		reads(t, "behind the crash", d, whole(size), told)
		shows(t, "behind the crash", d, told)
	}
}

// A span that is not there comes ahead of bytes that don't fit, and both of them ahead of a disk that is broken, or breaks.
func TestP12_1ErrorsInOrder(t *testing.T) {
	good, bad := api.Span{Off: 1, Len: 3}, api.Span{Off: 1, Len: 4}
	broken, breaks := sample.Broken(sample.Filled(12)), sample.Filled(12)
	breaks.Fuse(0)
	for _, d := range []*disk.Disk{sample.Filled(12), breaks, broken} {
		for _, n := range []int{0, 47, 48, 49, 64} {
			writeStays(t, "no such sectors", d, bad, make([]byte, n), api.ErrRange)
			writeStays(t, "no sectors", d, api.Span{}, make([]byte, n), api.ErrRange)
			setStays(t, "no such extent", d, 1, make([]byte, n), api.ErrRange)
			setStays(t, "no extent", d, -1, make([]byte, n), api.ErrRange)
			if n != 48 {
				writeStays(t, "too few or too many bytes", d, good, make([]byte, n), api.ErrArg)
			}
			if n != 64 {
				setStays(t, "too few or too many bytes", d, 0, make([]byte, n), api.ErrArg)
			}
		}
		readFails(t, "no such sectors", d, bad, api.ErrRange)
		readFails(t, "no sectors", d, api.Span{}, api.ErrRange)
		getFails(t, "no such extent", d, 1, api.ErrRange)
		getFails(t, "no extent", d, 64, api.ErrRange)
	}
	readFails(t, "broken", broken, good, api.ErrDown)
	writeStays(t, "broken", broken, good, make([]byte, 48), api.ErrDown)
	getFails(t, "broken", broken, 0, api.ErrDown)
	setStays(t, "broken", broken, 0, make([]byte, 64), api.ErrDown)
	if err := data.Write(breaks, good, make([]byte, 48)); err != api.ErrDown || !breaks.Broken() {
		t.Errorf("Write as the disk breaks: %v, Broken %v", err, breaks.Broken())
	}
}

// Each extent of disks of each small size, of those about all 64 extents, and of the greatest.
func TestP12_2EachExtent(t *testing.T) {
	sizes := []int{260, 261, 262, 263, 264, 265, 267, 268, api.MaxDisk}
	for size := 1; size <= 26; size++ {
		sizes = append(sizes, size)
	}
	for _, size := range sizes {
		d := sample.Filled(size)
		what := fmt.Sprintf("of %d sectors", size)
		for e := range 64 {
			b := sample.Pattern(e, 4)
			if 8+4*e+3 >= size {
				getFails(t, what, d, e, api.ErrRange)
				setStays(t, what, d, e, b, api.ErrRange)
				continue
			}
			gets(t, what, d, e, read(d, extent(e)))
			sets(t, what, d, e, b)
			gets(t, what, d, e, b)
			reads(t, what, d, api.Span{Off: 4 * e, Len: 4}, b)
		}
	}
}

// An extent of whose four sectors some are not there is none, though the others are.
func TestP12_2AnExtentThatLacksSectors(t *testing.T) {
	for lacks := 1; lacks <= 4; lacks++ {
		for _, e := range []int{0, 1, 2, 31, 62, 63} {
			d := sample.Filled(8 + 4*e + 4 - lacks)
			what := fmt.Sprintf("%d sectors are lacking", lacks)
			getFails(t, what, d, e, api.ErrRange)
			setStays(t, what, d, e, make([]byte, 64), api.ErrRange)
			setStays(t, what, d, e, make([]byte, 64-16*lacks), api.ErrRange)
			if e > 0 {
				gets(t, what, d, e-1, read(d, extent(e-1)))
				sets(t, what, d, e-1, sample.Pattern(e, 4))
			}
		}
	}
}

// The greatest disk has sectors behind the last extent: a span can name them, an extent can not.
func TestP12_2NoExtent(t *testing.T) {
	for _, size := range []int{1, 8, 9, 12, 24, 264, api.MaxDisk} {
		d := sample.Filled(size)
		what := fmt.Sprintf("of %d sectors", size)
		for _, e := range sample.NoExtents() {
			getFails(t, what, d, e, api.ErrRange)
			for _, n := range []int{0, 16, 64} {
				setStays(t, what, d, e, make([]byte, n), api.ErrRange)
			}
		}
	}
	d := sample.Filled(api.MaxDisk)
	gets(t, "the last one", d, 63, read(d, api.Span{Off: 252, Len: 4}))
	reads(t, "behind the last one", d, api.Span{Off: 256, Len: 4}, read(d, extent(64)))
}

func TestP12_2TooFewOrTooManyBytes(t *testing.T) {
	for _, size := range []int{12, 264, api.MaxDisk} {
		d := sample.Filled(size)
		d.Fuse(0)
		for n := range 200 {
			if n != 64 {
				setStays(t, "too few or too many", d, 0, make([]byte, n), api.ErrArg)
			}
		}
		setStays(t, "none", d, 0, nil, api.ErrArg)
		if d.Broken() {
			t.Errorf("what was refused broke the disk")
		}
	}
}

func TestP12_2TheDiskBreaks(t *testing.T) {
	for _, e := range []int{0, 1, 3} {
		for k := range 6 {
			d := sample.Filled(24)
			want, b := read(d, whole(24)), sample.Pattern(e, 4)
			copy(want[64*e:], b[:16*min(k, 4)])
			d.Fuse(k)
			what := fmt.Sprintf("%d operations left", k)
			sets(t, what, d, e, b)
			if k < 4 {
				getFails(t, what, d, e, api.ErrDown)
				getFails(t, what, d, 4, api.ErrRange)
				setStays(t, what, d, e, b, api.ErrDown)
				setStays(t, what, d, 4, b, api.ErrRange)
			}
			d.Crash(all)
			shows(t, what+", and a crash", d, want)
		}
	}
}

func TestP12_2Image(t *testing.T) {
	for _, size := range []int{1, 2, 7, 8, 9, 10, 12, 24, 263, 264, 265, api.MaxDisk} {
		d := sample.Filled(size)
		what := fmt.Sprintf("of %d sectors", size)
		if size <= 8 {
			showsNothing(t, what, d)
			showsNothing(t, what+", broken", sample.Broken(d))
			continue
		}
		want := read(d, whole(size))
		shows(t, what, d, want)
		if len(want) != 16*(size-8) || bytes.Equal(want, make([]byte, len(want))) {
			t.Errorf("%s: %d bytes, want some of %d", what, len(want), 16*(size-8))
		}
		d.Write(size-1, api.Sector{1, 15: 2})
		last := api.Sector{1, 15: 2}
		copy(want[16*(size-9):], last[:])
		shows(t, what+", what is cached too", d, want)
		d.Write(0, api.Sector{9})
		d.Write(7, api.Sector{9})
		shows(t, what+", nothing ahead of it", d, want)
		showsNothing(t, what+", broken", sample.Broken(d))
		d.Crash(all)
		shows(t, what+", behind a crash", d, want)
	}
}

func TestR5ADiskThatNoCallMade(t *testing.T) {
	for _, d := range []*disk.Disk{nil, {}, new(disk.Disk)} {
		// Twice: no call makes it.
		for range 2 {
			if n := data.Sectors(d); n != 0 {
				t.Errorf("Sectors: %d, want 0", n)
			}
			for _, s := range append(noSpans(), api.Span{Off: 0, Len: 1}, api.Span{Off: 1, Len: 4}) {
				readFails(t, "no call made it", d, s, api.ErrMade)
				for _, n := range []int{0, 1, 16, 64} {
					writeStays(t, "no call made it", d, s, make([]byte, n), api.ErrMade)
				}
			}
			for _, e := range append([]int{0, 1, 63}, sample.NoExtents()...) {
				getFails(t, "no call made it", d, e, api.ErrMade)
				for _, n := range []int{0, 1, 64} {
					setStays(t, "no call made it", d, e, make([]byte, n), api.ErrMade)
				}
			}
			showsNothing(t, "no call made it", d)
			d.Fuse(0)
			d.Crash(all)
		}
		if d.Made() || d != nil && fmt.Sprint(*d) != fmt.Sprint(disk.Disk{}) {
			t.Errorf("a Disk that no call made became %v", d)
		}
	}
}
