package copying_test

import (
	"bytes"
	"fmt"
	"testing"

	"twain/api"
	"twain/copying"
	"twain/data"
	"twain/dirty"
	"twain/disk"
	"twain/sample"
)

// The operations of a Put: four sectors, a Flush, and, of an extent that is in the bitmap, its record, and the record's Flush.
const (
	flushed  = 5
	recorded = 6
	settled  = 7
)

// fall is a Put, or a Told, of which ops operations can be done, and the crash that follows.
type fall struct {
	ops    int
	spares uint64
}

func (f fall) String() string {
	return fmt.Sprintf("%d operations, and a crash that spares %#x", f.ops, f.spares)
}

// falls: each number of operations up to one more than the need, and behind each of them each choice of what is cached then, with all beyond it, or none.
func falls(need int) []fall {
	var list []fall
	for ops := range need + 2 {
		for spares := range uint64(32) {
			list = append(list, fall{ops, spares}, fall{ops, all - 31 + spares})
		}
	}
	return list
}

// cut: which error is told of a call that needs so many operations and has so many.
func cut(need, ops int) api.Errno {
	if ops < need {
		return api.ErrDown
	}
	return api.OK
}

// need: how many operations a Put needs.
func need(mask uint64, e int) int {
	if mask>>e&1 == 1 {
		return settled
	}
	return flushed
}

// isNew: has sector i of the extent the new bytes behind the crash? Of those that were written, and are cached, the crash spares what it spares; what was flushed it can not take.
func (f fall) isNew(i int) bool { return f.ops >= flushed || i < f.ops && f.spares>>i&1 == 1 }

// isCleared: is the extent no longer in the bitmap behind the crash? The record alone is cached then, so the lowest bit is its own.
func (f fall) isCleared() bool { return f.ops >= settled || f.ops == recorded && f.spares&1 == 1 }

// putFalls: a Put that falls, on a disk on which nothing is cached: is the answer, what was done, the bitmap, and each sector, as it must be?
func putFalls(t *testing.T, d *disk.Disk, e int, b []byte, f fall) {
	t.Helper()
	was, mask := d.Copy(), dirty.Get(d)
	what := fmt.Sprintf("with the bitmap %#x, of %v", mask, f)
	d.Fuse(f.ops)
	m, err := puts(t, what, d, sample.Ext(e, b))
	if err != cut(need(mask, e), f.ops) || err != api.OK && !sample.AlikeMessages(m, api.Message{}) || err == api.OK && !sample.AlikeMessages(m, sample.Have(e)) {
		t.Errorf("%s: Put of %d: %s, %v", what, e, sample.Shown(m), err)
	}
	if done := d.Ops() - was.Ops(); done != min(f.ops, need(mask, e)) || d.Broken() != (err != api.OK) {
		t.Errorf("%s: Put of %d: %d operations were done, broken %v", what, e, done, d.Broken())
	}
	d.Crash(f.spares)
	left, image := mask, data.Image(was)
	if f.isCleared() {
		left = sample.Without(mask, e)
	}
	for i := range 4 {
		if f.isNew(i) {
			copy(image[64*e+16*i:], b[16*i:16*i+16])
		}
	}
	if got := dirty.Get(d); got != left || !bytes.Equal(data.Image(d), image) {
		t.Errorf("%s: Put of %d: the bitmap %#x, want %#x; the extent %v, want %v", what, e, got, left, sample.ExtentBytes(d, e), image[64*e:64*e+64])
	}
	known(t, what, d, mask, sample.Ext(e, b))
}

// known: behind a crash within a Put of that message, is the extent still in the bitmap, if it was there, unless it is alike, and are all others there that were?
func known(t *testing.T, what string, d *disk.Disk, mask uint64, m api.Message) {
	t.Helper()
	now := dirty.Get(d)
	if mask>>m.Off&1 == 1 && now>>m.Off&1 == 0 && !bytes.Equal(sample.ExtentBytes(d, m.Off), m.Data) {
		t.Errorf("%s: extent %d is not alike, and not in the bitmap %#x", what, m.Off, now)
	}
	if sample.Without(now, m.Off) != sample.Without(mask, m.Off) {
		t.Errorf("%s: the bitmap was %#x, and became %#x", what, mask, now)
	}
}

// A Put that falls at each of its operations, where the extent is in the bitmap and where it is not; asked for once more it is done.
func TestP29_1APutThatFalls(t *testing.T) {
	for _, size := range []int{12, 16, 24, 264} {
		for _, e := range extents(size) {
			for _, mask := range []uint64{1 << e, 0, all, all - 1<<e} {
				start := having(size, mask)
				for _, f := range falls(need(mask, e)) {
					d := start.Copy()
					putFalls(t, d, e, sample.Pattern(f.ops, 4), f)
					if _, err := puts(t, "once more", d, sample.Ext(e, sample.Pattern(f.ops, 4))); err != api.OK || dirty.Get(d) != sample.Without(mask, e) || !bytes.Equal(sample.ExtentBytes(d, e), sample.Pattern(f.ops, 4)) {
						t.Errorf("%v, and once more: %v, the bitmap %#x, the extent %v", f, err, dirty.Get(d), sample.ExtentBytes(d, e))
					}
				}
			}
		}
	}
}

// A Told that falls at each of its operations: the record is there behind the crash, if it was flushed, or was written and is spared.
func TestP29_1AToldThatFalls(t *testing.T) {
	for _, e := range []int{0, 1, 31, 63} {
		for _, mask := range []uint64{1 << e, 0, all, all - 1<<e} {
			start := having(24, mask)
			needs, aim := need(mask, e)-flushed, sample.Without(mask, e)
			for _, f := range falls(needs) {
				d, want := start.Copy(), aim
				d.Fuse(f.ops)
				left, err := tells(t, f.String(), d, e)
				if f.ops < needs {
					want = 0
				}
				if left != want || err != cut(needs, f.ops) || d.Ops() != start.Ops()+min(f.ops, needs) {
					t.Errorf("Told(%d) of %#x, of %v: %#x, %v, %d operations", e, mask, f, left, err, d.Ops()-start.Ops())
				}
				d.Crash(f.spares)
				want = mask
				if f.ops >= 2 || f.ops == 1 && f.spares&1 == 1 {
					want = aim
				}
				if got := dirty.Get(d); got != want || !bytes.Equal(data.Image(d), data.Image(start)) {
					t.Errorf("Told(%d) of %#x, of %v: the bitmap %#x, want %#x", e, mask, f, got, want)
				}
				if left, err := tells(t, "once more", d, e); left != aim || err != api.OK {
					t.Errorf("Told(%d) of %#x, of %v, once more: %#x, %v", e, mask, f, left, err)
				}
			}
		}
	}
}

// Sectors ahead of the extent, of it and behind it are cached, too, each with a bit of its own: whatever a crash spares of all that, the extent is in the bitmap, or alike.
func TestP29_2OthersAreCached(t *testing.T) {
	b := sample.Pattern(5, 4)
	for _, others := range [][]int{{0}, {5, 8}, {11, 16, 23}, {12, 13}, {15}, {1, 12, 15, 16}} {
		start := having(24, 6)
		for _, at := range others {
			start.Write(at, api.Sector{byte(at), 9})
		}
		for ops := range settled + 2 {
			for spares := range uint64(512) {
				d := start.Copy()
				d.Fuse(ops)
				what := fmt.Sprintf("%v are cached, of %v", others, fall{ops, spares})
				puts(t, what, d, sample.Ext(1, b))
				d.Crash(spares)
				known(t, what, d, 6, sample.Ext(1, b))
				if ops >= flushed && !bytes.Equal(sample.ExtentBytes(d, 1), b) {
					t.Errorf("%s: the extent was flushed, and is %v", what, sample.ExtentBytes(d, 1))
				}
			}
		}
	}
}

// The extent is alike already, in all of its sectors or in some: it stays in the bitmap until the Put is done, and its bytes are never others than the old ones or the new ones.
func TestP29_2AlikeAlready(t *testing.T) {
	for same := range 16 {
		start := having(16, 3)
		b := sample.Pattern(5, 4)
		for i := range 4 {
			if same>>i&1 == 1 {
				copy(b[16*i:], sample.ExtentBytes(start, 1)[16*i:16*i+16])
			}
		}
		for _, f := range falls(settled) {
			putFalls(t, start.Copy(), 1, b, f)
		}
	}
}

// Put upon Put falls, with others' bytes, and none ends: the extent stays in the bitmap, or has what was put last.
func TestP29_2ManyThatFall(t *testing.T) {
	for ops := range settled {
		for _, spares := range []uint64{0, 1, 2, 5, 10, all - 1, all} {
			d := having(16, 2)
			for i := range 20 {
				putFalls(t, d, 1, sample.Pattern(i, 4), fall{ops, spares})
				if dirty.Get(d) == 0 {
					// The record was spared: so the extent is alike, and is written anew only when it is out of sync once more.
					dirty.Put(d, 2)
				}
			}
			puts(t, "in the end", d, sample.Ext(1, sample.Pattern(30, 4)))
			if dirty.Get(d) != 0 || !bytes.Equal(sample.ExtentBytes(d, 1), sample.Pattern(30, 4)) {
				t.Errorf("in the end: the bitmap %#x, the extent %v", dirty.Get(d), sample.ExtentBytes(d, 1))
			}
		}
	}
}

// pair is two disks whose data areas are to become alike: one gives, the other gets.
type pair struct {
	from, to *disk.Disk
}

// apart: two disks of that size of which no sector of the data area is alike, as both bitmaps tell.
func apart(size int) pair {
	p := pair{from: sample.Filled(size), to: sample.Disk(size)}
	b := sample.Pattern(19, size)
	for at := 8; at < size; at++ {
		p.to.Write(at, api.Sector(b[16*at:]))
	}
	var mask uint64
	for e := range min((size-8)/4, 64) {
		mask |= 1 << e
	}
	sample.RingLay(p.from, 6, 2, 3, mask)
	sample.RingLay(p.to, 6, 2, 4, mask)
	return p
}

// copied: the extent is given, put and told, and alike on both.
func (p pair) copied(t *testing.T, e int) {
	t.Helper()
	m, err := gives(t, "the one that gives", p.from, e)
	if err != api.OK {
		t.Errorf("Give(%d): %v", e, err)
	}
	if _, err := puts(t, "the one that gets", p.to, m); err != api.OK {
		t.Errorf("Put of %d: %v", e, err)
	}
	if _, err := tells(t, "the one that gives", p.from, e); err != api.OK {
		t.Errorf("Told(%d): %v", e, err)
	}
	if !bytes.Equal(sample.ExtentBytes(p.from, e), sample.ExtentBytes(p.to, e)) {
		t.Errorf("extent %d: %v is given, and %v is there", e, sample.ExtentBytes(p.from, e), sample.ExtentBytes(p.to, e))
	}
}

// unlikeIsKnown: is each extent in which what is durable is not alike in the bitmap of one of them?
func (p pair) unlikeIsKnown(t *testing.T, what string) {
	t.Helper()
	mask := sample.RingWord(p.from, 6, 2) | sample.RingWord(p.to, 6, 2)
	for at := 8; at < p.from.Size(); at++ {
		if e := (at - 8) / 4; e < 64 && p.from.Durable(at) != p.to.Durable(at) && mask>>e&1 == 0 && sample.HasExtent(p.from, e) {
			t.Errorf("%s: sector %d of extent %d is not alike, and the bitmaps tell %#x", what, at-8, e, mask)
		}
	}
}

// Extent by extent, in whatever order, all become alike, and no bitmap has one any more.
func TestP29_2AllAreCopied(t *testing.T) {
	for _, size := range sizes() {
		for name, way := range sample.WaysThrough[int]() {
			p := apart(size)
			var list []int
			for e := range min((size-8)/4, 64) {
				list = append(list, e)
			}
			for i, e := range way(list) {
				p.copied(t, e)
				// Once more nothing is changed by it.
				if i%5 == 0 {
					p.copied(t, e)
				}
				p.unlikeIsKnown(t, name)
			}
			p.from.Crash(0)
			p.to.Crash(0)
			n := 64 * len(list)
			if !bytes.Equal(data.Image(p.from)[:n], data.Image(p.to)[:n]) || dirty.Get(p.from) != 0 || dirty.Get(p.to) != 0 {
				t.Errorf("of %d sectors, %s: the data areas are not alike, or the bitmaps %#x, %#x not empty", size, name, dirty.Get(p.from), dirty.Get(p.to))
			}
		}
	}
}

// From a disk to a greater one, and to a smaller one, as far as both have the extent.
func TestP29_2DisksOfOtherSizes(t *testing.T) {
	for _, sizes := range [][2]int{{12, 24}, {24, 12}, {13, 16}, {264, api.MaxDisk}, {api.MaxDisk, 264}} {
		from, to := having(sizes[0], all), sample.Disk(sizes[1])
		for e := range 64 {
			m, err := gives(t, "from", from, e)
			if err != api.OK {
				continue
			}
			if _, err := puts(t, "to", to, m); err == api.OK && !bytes.Equal(sample.ExtentBytes(from, e), sample.ExtentBytes(to, e)) || (err == api.OK) != sample.HasExtent(to, e) {
				t.Errorf("from %d sectors to %d: extent %d: %v", sizes[0], sizes[1], e, err)
			}
		}
	}
}

// step: what a word of no pattern chooses: an extent is copied, or a Put, or a Told, falls, or either disk crashes. An extent is told only when it was put, as the nodes do it.
func (p pair) step(t *testing.T, w uint64) {
	t.Helper()
	e := int(w >> 8 % uint64((p.from.Size()-8)/4))
	f := fall{int(w >> 20 % 9), w >> 30}
	switch w % 8 {
	case 0:
		p.copied(t, e)
	case 1, 2, 3, 4:
		m, _ := copying.Give(p.from, e)
		putFalls(t, p.to, e, m.Data, f)
	case 5:
		if sample.RingWord(p.to, 6, 2)>>e&1 == 0 {
			p.from.Fuse(f.ops % 3)
			tells(t, "the one that gives", p.from, e)
			p.from.Crash(f.spares)
		}
	case 6:
		p.from.Crash(f.spares)
		p.to.Crash(f.spares)
	case 7:
		// A write that reached the one alone: its extent is out of sync from then on.
		dirty.Put(p.from, dirty.Get(p.from)|1<<e)
		dirty.Put(p.to, dirty.Get(p.to)|1<<e)
		sample.Lay(p.from, 8+4*e+int(w>>50%4), api.Sector(sample.Pattern(int(w>>40%1000), 1)))
	}
	p.unlikeIsKnown(t, fmt.Sprintf("behind step %#x", w))
}

func TestP29_2LongRuns(t *testing.T) {
	for _, size := range []int{12, 16, 28} {
		p := apart(size)
		for _, w := range sample.Words()[130:] {
			p.step(t, w)
		}
		for e := range (size - 8) / 4 {
			p.copied(t, e)
		}
		if !bytes.Equal(data.Image(p.from), data.Image(p.to)) || dirty.Get(p.from) != 0 || dirty.Get(p.to) != 0 {
			t.Errorf("of %d sectors: not alike in the end, or the bitmaps %#x, %#x not empty", size, dirty.Get(p.from), dirty.Get(p.to))
		}
	}
}

// Each row of three, of all that can happen around two extents.
func TestP29_2AllShortRuns(t *testing.T) {
	start := apart(16)
	fresh := func() pair { return pair{from: start.from.Copy(), to: start.to.Copy()} }
	var steps []func(p pair)
	for e := range 2 {
		steps = append(steps, func(p pair) {
			p.copied(t, e)
			p.unlikeIsKnown(t, "copied")
		})
		for _, f := range []fall{{2, 1}, {4, all}, {5, 0}, {6, 0}, {6, 1}} {
			steps = append(steps, func(p pair) {
				m, _ := copying.Give(p.from, e)
				putFalls(t, p.to, e, m.Data, f)
				p.unlikeIsKnown(t, f.String())
			})
		}
	}
	sample.AllRuns(3, fresh, steps)
}
