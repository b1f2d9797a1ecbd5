package copying_test

import (
	"bytes"
	"fmt"
	"math"
	"testing"

	"twain/api"
	"twain/copying"
	"twain/data"
	"twain/dirty"
	"twain/disk"
	"twain/pack"
	"twain/sample"
)

// sizes: of disks of one extent up to all 64, with sectors behind the last whole one, and with more than all extents have.
func sizes() []int { return []int{12, 13, 15, 16, 24, 260, 263, 264, 265, 268, api.MaxDisk} }

// extents: the first one, those within and the last one of a disk of that size.
func extents(size int) []int {
	n := min((size-8)/4, 64)
	list := []int{0}
	for _, e := range []int{1, n / 2, n - 1} {
		if e > list[len(list)-1] && e < n {
			list = append(list, e)
		}
	}
	return list
}

// sorts: an extent's bytes, of all sorts; in the last ones each sector alone has some.
func sorts() [][]byte {
	list := append(sample.Sorts(64), sample.Pattern(3, 4), sample.Pattern(40, 4))
	for i := range 4 {
		b := make([]byte, 64)
		copy(b[16*i:], sample.Bytes(16))
		list = append(list, b)
	}
	return list
}

// Four sectors, a Flush, and a record with a Flush of its own, if the extent was in the bitmap.
func TestP29_1Example(t *testing.T) {
	d := sample.Disk(16)
	dirty.Put(d, 2)
	b := sample.Bytes(64)
	for _, ops := range []int{9, 14, 19} {
		m, err := copying.Put(d, api.Message{Kind: pack.Ext, Off: 1, Data: b})
		if !pack.Same(m, api.Message{Kind: pack.Have, Off: 1}) || !pack.Good(m) || err != api.OK || d.Ops() != ops {
			t.Errorf("Put of extent 1: %+v, %v, Ops %d, want the Have of 1, OK, %d", m, err, d.Ops(), ops)
		}
		if dirty.Get(d) != 0 || len(d.Cached()) != 0 || !bytes.Equal(data.Image(d), append(make([]byte, 64), b...)) {
			t.Errorf("behind the Put: the bitmap %#x, Cached %v, the data %v", dirty.Get(d), d.Cached(), data.Image(d))
		}
	}
	m, err := copying.Give(d, 1)
	if !pack.Same(m, api.Message{Kind: pack.Ext, Off: 1, Data: b}) || !pack.Good(m) || err != api.OK || d.Ops() != 19 {
		t.Errorf("Give of extent 1: %+v, %v, Ops %d", m, err, d.Ops())
	}
	dirty.Put(d, 3)
	for _, ops := range []int{23, 23} {
		if left, err := copying.Told(d, 1); left != 1 || err != api.OK || dirty.Get(d) != 1 || d.Ops() != ops {
			t.Errorf("Told of extent 1: %#x, %v, the bitmap %#x, Ops %d, want 1, OK, 1, %d", left, err, dirty.Get(d), d.Ops(), ops)
		}
	}
}

// Each of some extents of disks of all sizes, with bytes of all sorts: those that the disk itself was told.
func TestP29_1Give(t *testing.T) {
	for _, size := range sizes() {
		for _, e := range extents(size) {
			for _, b := range sorts() {
				d := sample.Filled(size)
				for i := range 4 {
					d.Write(8+4*e+i, api.Sector(b[16*i:]))
				}
				what := fmt.Sprintf("of %d sectors", size)
				// What is cached is told as what is durable is.
				for range 2 {
					m, err := gives(t, what, d, e)
					if m.Kind != pack.Ext || m.Off != e || !bytes.Equal(m.Data, b) || !pack.Good(m) || err != api.OK {
						t.Errorf("%s: Give(%d): %s, %v, want %v", what, e, sample.Shown(m), err, b)
					}
					d.Flush()
				}
			}
		}
	}
}

// All extents that there are, and none besides, of each small disk, of those about all 64, and of the greatest.
func TestP29_1GiveOfEachExtent(t *testing.T) {
	list := append(sizes(), 261, 262, 266, 267)
	for size := 1; size <= 26; size++ {
		list = append(list, size)
	}
	for _, size := range list {
		d := sample.Filled(size)
		count := 0
		for e := -3; e < 70; e++ {
			if _, err := gives(t, fmt.Sprintf("of %d sectors", size), d, e); err == api.OK {
				count++
			}
		}
		if want := min(max(size-8, 0)/4, 64); count != want {
			t.Errorf("of %d sectors: %d extents are given, want %d", size, count, want)
		}
	}
}

// Below 0, behind the last one, at the ends of an int, and one of which only a part is there.
func TestP29_1GiveOfNoExtent(t *testing.T) {
	for _, size := range append(sizes(), 1, 6, 7, 8, 9, 10, 11) {
		for _, d := range []*disk.Disk{sample.Filled(size), sample.Broken(sample.Filled(size))} {
			what := fmt.Sprintf("of %d sectors, broken %v", size, d.Broken())
			for _, e := range sample.NoExtents() {
				giveStays(t, what, d, e, api.ErrRange)
			}
			giveStays(t, what, d, (max(size, 8)-8)/4, errFor(d, (max(size, 8)-8)/4))
			giveStays(t, what, d, 63, errFor(d, 63))
		}
	}
	for lacks := 1; lacks <= 4; lacks++ {
		for _, e := range []int{0, 1, 2, 31, 62, 63} {
			d := sample.Filled(8 + 4*e + 4 - lacks)
			giveStays(t, fmt.Sprintf("%d sectors are lacking", lacks), d, e, api.ErrRange)
			if e > 0 {
				giveStays(t, "the one ahead", d, e-1, api.OK)
			}
		}
	}
}

// errFor: what a disk that a call made must answer of an extent: is it there, and does the disk work?
func errFor(d *disk.Disk, e int) api.Errno {
	switch {
	case !sample.HasExtent(d, e):
		return api.ErrRange
	case d.Broken():
		return api.ErrDown
	}
	return api.OK
}

// Give is no operation: a disk that has none left does not break by it, and one that is broken gives nothing.
func TestP29_1GiveOfABrokenDisk(t *testing.T) {
	for _, size := range sizes() {
		d := having(size, 3)
		d.Fuse(0)
		for _, e := range extents(size) {
			giveStays(t, "no operation left", d, e, api.OK)
		}
		if d.Broken() {
			t.Errorf("of %d sectors: Give broke the disk", size)
		}
		d.Write(0, api.Sector{})
		for _, e := range extents(size) {
			giveStays(t, "broken", d, e, api.ErrDown)
		}
		d.Crash(0)
		for _, e := range extents(size) {
			giveStays(t, "behind the crash", d, e, api.OK)
		}
	}
}

// Of disks of all sizes, with bytes of all sorts, where the extent is in the bitmap, alone or among others, and where it is not.
func TestP29_1Put(t *testing.T) {
	for _, size := range sizes() {
		for _, e := range extents(size) {
			for _, mask := range []uint64{0, 1 << e, all, all - 1<<e, 1<<e | 1<<63 | 1} {
				for _, b := range sorts() {
					d := having(size, mask)
					ops, want := 5, data.Image(d)
					if mask>>e&1 == 1 {
						ops = 7
					}
					copy(want[64*e:], b)
					was := d.Copy()
					what := fmt.Sprintf("of %d sectors, with the bitmap %#x", size, mask)
					m, err := puts(t, what, d, sample.Ext(e, b))
					if m.Kind != pack.Have || m.Off != e || len(m.Data) != 0 || !pack.Good(m) || err != api.OK {
						t.Errorf("%s: Put of %d: %s, %v", what, e, sample.Shown(m), err)
					}
					if d.Ops() != was.Ops()+ops || len(d.Cached()) != 0 || dirty.Get(d) != sample.Without(mask, e) || !bytes.Equal(data.Image(d), want) {
						t.Errorf("%s: Put of %d: %d operations, want %d; Cached %v, the bitmap %#x", what, e, d.Ops()-was.Ops(), ops, d.Cached(), dirty.Get(d))
					}
				}
			}
		}
	}
}

// All that is cached is flushed along, where the extent is in the bitmap and where it is not.
func TestP29_1PutFlushesAll(t *testing.T) {
	for _, mask := range []uint64{0, 2, 5, all} {
		d := having(24, mask)
		for _, at := range []int{0, 5, 8, 11, 12, 13, 16, 23} {
			d.Write(at, api.Sector{byte(at), 9})
		}
		puts(t, "others are cached", d, sample.Ext(1, sample.Pattern(1, 4)))
		d.Crash(0)
		for _, at := range []int{0, 5, 8, 11, 16, 23} {
			if d.Durable(at) != (api.Sector{byte(at), 9}) {
				t.Errorf("with the bitmap %#x: sector %d became %v", mask, at, d.Durable(at))
			}
		}
		if !bytes.Equal(sample.ExtentBytes(d, 1), sample.Pattern(1, 4)) {
			t.Errorf("with the bitmap %#x: extent 1 became %v", mask, sample.ExtentBytes(d, 1))
		}
	}
}

// Whatever the disk is: the message comes first, and nothing is done.
func TestP29_1PutOfNoExt(t *testing.T) {
	breaks := having(24, 7)
	breaks.Write(9, api.Sector{1})
	breaks.Fuse(0)
	for what, d := range map[string]*disk.Disk{
		"a disk that works":         having(24, all),
		"no operation left":         breaks,
		"broken":                    sample.Broken(having(24, 7)),
		"no data area":              sample.Filled(8),
		"fewer sectors than it has": sample.Filled(15),
		"the greatest":              having(api.MaxDisk, all),
	} {
		for _, m := range sample.NoExts() {
			putStays(t, what, d, m, api.ErrArg)
		}
	}
	if breaks.Broken() {
		t.Errorf("what was refused broke the disk")
	}
}

// Data of none is refused, be it nil or empty, and alike.
func TestP29_1PutOfNoData(t *testing.T) {
	for _, b := range [][]byte{nil, {}, make([]byte, 0, 64), sample.Bytes(64)[:0]} {
		putStays(t, "no bytes", having(24, all), sample.Ext(1, b), api.ErrArg)
	}
}

// All Offs that a message may have, and those beside them.
func TestP29_1PutOfEachOff(t *testing.T) {
	for _, size := range append(sizes(), 1, 7, 8, 9, 11) {
		d := having(size, all)
		for e := -2; e <= 66; e++ {
			want := api.OK
			if e < 0 || e > 63 {
				want = api.ErrArg
			} else if 8+4*e+4 > size {
				want = api.ErrRange
			}
			if _, err := puts(t, fmt.Sprintf("of %d sectors", size), d, sample.Ext(e, sample.Pattern(e+2, 4))); err != want {
				t.Errorf("of %d sectors: Put of %d: %v, want %v", size, e, err, want)
			}
		}
	}
}

// An extent that is not there, or of which only a part is: nothing is written, of that part neither.
func TestP29_1PutOfAnExtentThatIsNotThere(t *testing.T) {
	for lacks := 1; lacks <= 5; lacks++ {
		for _, e := range []int{0, 1, 2, 31, 62, 63} {
			size := 8 + 4*e + 4 - lacks
			d := having(size, all)
			d.Write(0, api.Sector{1})
			what := fmt.Sprintf("%d sectors are lacking", lacks)
			putStays(t, what, d, sample.Ext(e, sample.Bytes(64)), api.ErrRange)
			d.Fuse(0)
			putStays(t, what+", no operation left", d, sample.Ext(e, sample.Bytes(64)), api.ErrRange)
			putStays(t, what+", broken", sample.Broken(d), sample.Ext(e, sample.Bytes(64)), api.ErrRange)
		}
	}
	for size := 1; size <= 8; size++ {
		for _, e := range []int{0, 63} {
			putStays(t, "no data area", sample.Filled(size), sample.Ext(e, sample.Bytes(64)), api.ErrRange)
		}
	}
}

func TestP29_1PutOnABrokenDisk(t *testing.T) {
	for _, size := range sizes() {
		for _, e := range extents(size) {
			for _, mask := range []uint64{0, 1 << e, all} {
				d := sample.Broken(having(size, mask))
				putStays(t, "broken", d, sample.Ext(e, sample.Bytes(64)), api.ErrDown)
				// A new fuse does not mend it.
				d.Fuse(20)
				putStays(t, "broken, with a fuse", d, sample.Ext(e, sample.Bytes(64)), api.ErrDown)
				d.Crash(all)
				if _, err := puts(t, "behind the crash", d, sample.Ext(e, sample.Bytes(64))); err != api.OK || dirty.Get(d) != sample.Without(mask, e) {
					t.Errorf("behind the crash: Put of %d: %v, the bitmap %#x", e, err, dirty.Get(d))
				}
			}
		}
	}
}

// The bitmap's ring has no number left: its error is told, and what was done ahead of it stays. Where the extent is not in the bitmap, no record is needed.
func TestP29_1PutBehindTheLastRecord(t *testing.T) {
	d := sample.Filled(24)
	sample.RingLay(d, 6, 2, greatest, 6)
	was, b := d.Copy(), sample.Pattern(9, 4)
	m, err := puts(t, "behind the last record", d, sample.Ext(1, b))
	if !sample.AlikeMessages(m, api.Message{}) || err != api.ErrRange || dirty.Get(d) != 6 || d.Ops() != was.Ops()+5 {
		t.Errorf("Put of 1: %s, %v, the bitmap %#x, %d operations, want the zero one, %v, 0x6, 5", sample.Shown(m), err, dirty.Get(d), d.Ops()-was.Ops(), api.ErrRange)
	}
	d.Crash(0)
	if !bytes.Equal(sample.ExtentBytes(d, 1), b) {
		t.Errorf("Put of 1: the bytes became %v", sample.ExtentBytes(d, 1))
	}
	if m, err := puts(t, "behind the last record", d, sample.Ext(0, b)); m.Kind != pack.Have || err != api.OK {
		t.Errorf("Put of 0: %s, %v", sample.Shown(m), err)
	}
	toldStays(t, "behind the last record", d, 1, 0, api.ErrRange)
	toldStays(t, "behind the last record", d, 0, 6, api.OK)
}

// The last record but one: there is one more.
func TestP29_1TheLastRecord(t *testing.T) {
	d := sample.Filled(24)
	sample.RingLay(d, 6, 2, greatest-1, 6)
	if left, err := tells(t, "the last record", d.Copy(), 1); left != 4 || err != api.OK {
		t.Errorf("Told of 1: %#x, %v", left, err)
	}
	if _, err := puts(t, "the last record", d, sample.Ext(2, sample.Bytes(64))); err != api.OK || dirty.Get(d) != 2 {
		t.Errorf("Put of 2: %v, the bitmap %#x", err, dirty.Get(d))
	}
}

// What one disk gives is put to another one, and to the same one, whose bytes stay as they were.
func TestP29_1PutOfWhatIsGiven(t *testing.T) {
	for _, size := range sizes() {
		for _, e := range extents(size) {
			one, other := having(size, all), sample.Disk(size)
			sample.RingLay(other, 6, 2, 8, 1<<e)
			m, _ := gives(t, "one", one, e)
			puts(t, "the other", other, m)
			if !bytes.Equal(sample.ExtentBytes(one, e), sample.ExtentBytes(other, e)) || dirty.Get(other) != 0 || dirty.Get(one) != all {
				t.Errorf("of %d sectors: Put of %d at the other: %v, want %v; the bitmaps %#x, %#x", size, e, sample.ExtentBytes(other, e), sample.ExtentBytes(one, e), dirty.Get(other), dirty.Get(one))
			}
			image := data.Image(one)
			puts(t, "the same one", one, m)
			if !bytes.Equal(data.Image(one), image) || dirty.Get(one) != all-1<<e {
				t.Errorf("of %d sectors: Put of %d at the same one: the data, or the bitmap %#x", size, e, dirty.Get(one))
			}
		}
	}
}

// Of each set each extent: one that is in it costs two operations, another one none.
func TestP29_1Told(t *testing.T) {
	for _, mask := range append(sample.Words()[:132], sample.FewWords()...) {
		for e := range 64 {
			d := having(8+e%9, mask)
			d.Write(0, api.Sector{1})
			if mask>>e&1 == 0 {
				toldStays(t, "not in the set", d, e, mask, api.OK)
				continue
			}
			was := d.Copy()
			if left, err := tells(t, "in the set", d, e); left != mask-1<<e || err != api.OK || dirty.Get(d) != left || d.Ops() != was.Ops()+2 || len(d.Cached()) != 0 {
				t.Errorf("Told(%d) of %#x: %#x, %v, the bitmap %#x, %d operations", e, mask, left, err, dirty.Get(d), d.Ops()-was.Ops())
			}
			toldStays(t, "told already", d, e, mask-1<<e, api.OK)
		}
	}
}

// An extent that a disk has no sectors for is in a set as any other is.
func TestP29_1ToldOnSmallDisks(t *testing.T) {
	for _, e := range []int{0, 1, 63} {
		for size := 1; size <= 7; size++ {
			toldStays(t, "no bitmap", sample.Filled(size), e, 0, api.OK)
			toldStays(t, "no whole bitmap", having(size, all), e, 0, api.OK)
		}
		if left, err := tells(t, "no data area", having(8, all), e); left != all-1<<e || err != api.OK {
			t.Errorf("no data area: Told(%d): %#x, %v", e, left, err)
		}
	}
}

// Whatever the disk is: what is no extent comes first, and nothing is done.
func TestP29_1ToldOfNoExtent(t *testing.T) {
	breaks := having(24, all)
	breaks.Write(9, api.Sector{1})
	breaks.Fuse(0)
	for _, d := range []*disk.Disk{having(24, all), having(24, 0), breaks, sample.Broken(having(24, 7)), sample.Disk(1), having(api.MaxDisk, all)} {
		for _, e := range sample.NoExtents() {
			toldStays(t, "no extent", d, e, 0, api.ErrArg)
		}
	}
	if breaks.Broken() {
		t.Errorf("what was refused broke the disk")
	}
}

func TestP29_1ToldOnABrokenDisk(t *testing.T) {
	for _, size := range []int{1, 7, 8, 12, 24, api.MaxDisk} {
		for _, mask := range []uint64{0, 1, 1 << 63, all} {
			d := having(size, mask)
			d.Write(size-1, api.Sector{7})
			sample.Broken(d)
			for _, e := range []int{0, 1, 63} {
				toldStays(t, "broken", d, e, 0, api.ErrDown)
			}
		}
	}
}

// Of all that may be wrong the first thing is told: the message, or the number, then the disk that no call made, the extent that is not there, and the disk that is broken.
func TestP29_1ErrorsInOrder(t *testing.T) {
	good, away, bad := sample.Ext(0, sample.Bytes(64)), sample.Ext(1, sample.Bytes(64)), sample.Ext(0, sample.Bytes(63))
	works, broken := having(12, all), sample.Broken(having(12, all))
	for _, c := range []struct {
		d    *disk.Disk
		m    api.Message
		want api.Errno
	}{
		{nil, bad, api.ErrArg}, {broken, bad, api.ErrArg}, {works, bad, api.ErrArg}, {nil, sample.Have(64), api.ErrArg},
		{nil, away, api.ErrMade}, {nil, good, api.ErrMade}, {broken, away, api.ErrRange}, {works, away, api.ErrRange}, {broken, good, api.ErrDown},
	} {
		putStays(t, "in order", c.d, c.m, c.want)
	}
	for _, c := range []struct {
		d    *disk.Disk
		e    int
		give api.Errno
		told api.Errno
	}{
		{nil, -1, api.ErrMade, api.ErrArg}, {nil, 64, api.ErrMade, api.ErrArg}, {nil, 0, api.ErrMade, api.ErrMade},
		{broken, -1, api.ErrRange, api.ErrArg}, {broken, 64, api.ErrRange, api.ErrArg}, {broken, 1, api.ErrRange, api.ErrDown}, {broken, 0, api.ErrDown, api.ErrDown},
		{works, -1, api.ErrRange, api.ErrArg}, {works, 64, api.ErrRange, api.ErrArg},
	} {
		giveStays(t, "in order", c.d, c.e, c.give)
		toldStays(t, "in order", c.d, c.e, 0, c.told)
	}
}

// Each number and each message that may not be, and some that may, on disks of all sorts; none panics.
func TestR1WhateverIsGiven(t *testing.T) {
	numbers := append(append(sample.NoExtents(), sample.Ends()...), 0, 1, 2, 3, 4, 62, 63, 252, 253)
	messages := append(sample.NoExts(), sample.Ext(0, sample.Bytes(64)), sample.Ext(63, sample.Bytes(64)))
	for _, n := range numbers {
		for _, b := range [][]byte{nil, {}, sample.Bytes(63), sample.Bytes(64), sample.Bytes(80)} {
			messages = append(messages, api.Message{Kind: n, Id: n, Off: n, Mask: uint64(n), Was: n < 0, Data: b}, sample.Ext(n, b))
		}
	}
	for _, size := range []int{0, 1, 6, 7, 8, 9, 11, 12, 24, 264} {
		for _, fuse := range []int{math.MinInt, -1, 0, 1, 5, math.MaxInt} {
			d := sample.Disk(size)
			for i, m := range messages {
				e := numbers[i%len(numbers)]
				d.Fuse(fuse)
				gives(t, "whatever", d, e)
				puts(t, "whatever", d, m)
				tells(t, "whatever", d, e)
				d.Crash(uint64(i))
			}
		}
	}
}

func TestR5ADiskThatNoCallMade(t *testing.T) {
	for _, d := range []*disk.Disk{nil, {}, new(disk.Disk)} {
		// Twice: no call makes it.
		for range 2 {
			for e := range 64 {
				if m, err := copying.Give(d, e); !sample.AlikeMessages(m, api.Message{}) || err != api.ErrMade {
					t.Errorf("Give(%d): %s, %v, want the zero one, %v", e, sample.Shown(m), err, api.ErrMade)
				}
				if m, err := copying.Put(d, sample.Ext(e, sample.Bytes(64))); !sample.AlikeMessages(m, api.Message{}) || err != api.ErrMade {
					t.Errorf("Put of %d: %s, %v, want the zero one, %v", e, sample.Shown(m), err, api.ErrMade)
				}
				if left, err := copying.Told(d, e); left != 0 || err != api.ErrMade {
					t.Errorf("Told(%d): %#x, %v, want 0, %v", e, left, err, api.ErrMade)
				}
			}
			for _, e := range sample.NoExtents() {
				giveStays(t, "no disk", d, e, api.ErrMade)
				toldStays(t, "no disk", d, e, 0, api.ErrArg)
			}
			for _, m := range sample.NoExts() {
				putStays(t, "no disk", d, m, api.ErrArg)
			}
			d.Fuse(0)
			d.Crash(all)
		}
		if d.Made() || d != nil && fmt.Sprint(*d) != fmt.Sprint(disk.Disk{}) {
			t.Errorf("a Disk that no call made became %v", d)
		}
	}
}
