package slots_test

import (
	"fmt"
	"math"
	"testing"

	"twain/api"
	"twain/disk"
	"twain/sample"
	"twain/seal"
	"twain/slots"
)

const (
	all      = math.MaxUint64
	greatest = math.MaxUint32
)

// noRing: no ring has so many sectors.
var noRing = []int{math.MinInt, math.MinInt32, -1024, -9, -8, -2, -1, 0, 1, 9, 10, 16, 1024, math.MaxInt32, math.MaxInt - 1, math.MaxInt}

// noBase: no ring begins there.
var noBase = []int{math.MinInt, math.MinInt + 1, math.MinInt32, -1025, -8, -2, -1, api.MaxDisk + 1, 2 * api.MaxDisk, math.MaxInt32, math.MaxInt - 8, math.MaxInt - 1, math.MaxInt}

// tells: are those the latest number and word, and is the disk as it was?
func tells(t *testing.T, what string, d *disk.Disk, base, ring int, number uint32, word uint64) {
	t.Helper()
	was := d.Copy()
	if n, w := slots.Latest(d, base, ring); n != number || w != word {
		t.Errorf("%s: Latest(base %d, ring %d): %d, %d, want %d, %d", what, base, ring, n, w, number, word)
	}
	if !sample.Alike(d, was) {
		t.Errorf("%s: Latest(base %d, ring %d) changed the disk", what, base, ring)
	}
}

// puts: is the word put?
func puts(t *testing.T, d *disk.Disk, base, ring int, word uint64) {
	t.Helper()
	if e := slots.Put(d, base, ring, word); e != api.OK {
		t.Errorf("Put(base %d, ring %d): %v", base, ring, e)
	}
}

// refuses: is that the error, and is the disk as it was?
func refuses(t *testing.T, what string, d *disk.Disk, base, ring int, want api.Errno) {
	t.Helper()
	was := d.Copy()
	if e := slots.Put(d, base, ring, 5); e != want {
		t.Errorf("%s: Put(base %d, ring %d): %v, want %v", what, base, ring, e, want)
	}
	if !sample.Alike(d, was) {
		t.Errorf("%s: Put(base %d, ring %d) was refused, and changed the disk", what, base, ring)
	}
}

// mixed: disks with a ring of which each sector is of chance, the half of them flushed.
func mixed(try func(d *disk.Disk, base, ring int)) {
	words := sample.Words()[130:]
	for i := 0; i+8 <= len(words); i += 8 {
		base, ring := i/8%7, 2+i/8%7
		d := sample.Disk(16)
		for k := range ring {
			d.Write(base+k, sample.RingSector(words[i+k], k, ring))
			if words[i+k]>>60&1 == 0 {
				d.Flush()
			}
		}
		try(d, base, ring)
	}
}

func TestP7_1Place(t *testing.T) {
	for ring := 2; ring <= 8; ring++ {
		for _, base := range []int{0, 1, 2, 6, 7, 100, api.MaxDisk - 8, api.MaxDisk - 1, api.MaxDisk} {
			want := base
			for n := range uint32(100) {
				if got := slots.Place(n, base, ring); got != want {
					t.Errorf("Place(%d, %d, %d): %d, want %d", n, base, ring, got, want)
				}
				if want++; want == base+ring {
					want = base
				}
			}
			for _, w := range sample.Words() {
				n := uint32(w >> 16)
				if got, want := slots.Place(n, base, ring), sample.RingPlace(n, base, ring); got != want {
					t.Errorf("Place(%d, %d, %d): %d, want %d", n, base, ring, got, want)
				}
			}
		}
	}
}

func TestP7_1PlaceOfGreatNumbers(t *testing.T) {
	for ring, want := range map[int][4]int{
		// Of 2^31 - 1, 2^31, 2^32 - 2 and 2^32 - 1.
		2: {1, 0, 0, 1},
		3: {1, 2, 2, 0},
		4: {3, 0, 2, 3},
		5: {2, 3, 4, 0},
		6: {1, 2, 2, 3},
		7: {1, 2, 2, 3},
		8: {7, 0, 6, 7},
	} {
		for i, n := range []uint32{math.MaxInt32, 1 << 31, greatest - 1, greatest} {
			if got := slots.Place(n, 1000, ring); got != 1000+want[i] {
				t.Errorf("Place(%d, 1000, %d): %d, want %d", n, ring, got, 1000+want[i])
			}
		}
	}
}

func TestP7_1PlaceOfNoRing(t *testing.T) {
	for _, n := range []uint32{0, 1, 2, 9, 1 << 31, greatest} {
		for _, ring := range noRing {
			for _, base := range append([]int{0, 1, 8, api.MaxDisk}, noBase...) {
				if got := slots.Place(n, base, ring); got != 0 {
					t.Errorf("Place(%d, %d, %d): %d, want 0", n, base, ring, got)
				}
			}
		}
		for _, base := range noBase {
			for ring := 2; ring <= 8; ring++ {
				if got := slots.Place(n, base, ring); got != 0 {
					t.Errorf("Place(%d, %d, %d): %d, want 0", n, base, ring, got)
				}
			}
		}
	}
}

// The first sentence of the chapter's example.
func TestP7_1LatestOfTwo(t *testing.T) {
	d := sample.Disk(8)
	tells(t, "nothing put", d, 3, 2, 0, 0)
	puts(t, d, 3, 2, 7)
	tells(t, "7 put", d, 3, 2, 1, 7)
	puts(t, d, 3, 2, 9)
	tells(t, "7 and 9 put", d, 3, 2, 2, 9)
}

func TestP7_1LatestBehindEachPut(t *testing.T) {
	words := sample.Words()
	for ring := 2; ring <= 8; ring++ {
		for _, c := range []struct{ size, base int }{{ring, 0}, {ring + 1, 0}, {ring + 1, 1}, {20, 5}, {20, 20 - ring}, {api.MaxDisk, 0}, {api.MaxDisk, api.MaxDisk - ring}} {
			d := sample.Disk(c.size)
			tells(t, "nothing put", d, c.base, ring, 0, 0)
			for i, word := range words[:40] {
				puts(t, d, c.base, ring, word)
				tells(t, fmt.Sprintf("of %d sectors", c.size), d, c.base, ring, uint32(i+1), word)
			}
		}
	}
}

func TestP7_1NumberNought(t *testing.T) {
	for ring := 2; ring <= 8; ring++ {
		d := sample.Disk(10)
		sample.Lay(d, 1, seal.Record(0, 77))
		tells(t, "number 0 at its place", d, 1, ring, 0, 0)
		puts(t, d, 1, ring, 5)
		tells(t, "number 1 behind it", d, 1, ring, 1, 5)
	}
}

func TestP7_1NotAtItsPlace(t *testing.T) {
	for ring := 2; ring <= 8; ring++ {
		for n := range uint32(20) {
			for i := range ring {
				d := sample.Disk(10)
				sample.Lay(d, 1+i, seal.Record(n, 77))
				if n > 0 && sample.RingPlace(n, 1, ring) == 1+i {
					tells(t, fmt.Sprintf("record %d in sector %d", n, 1+i), d, 1, ring, n, 77)
				} else {
					tells(t, fmt.Sprintf("record %d in sector %d", n, 1+i), d, 1, ring, 0, 0)
				}
			}
		}
	}
}

// A record beside the ring is none of its own, even where it would be the next, or the one ahead.
func TestP7_1BesideTheRing(t *testing.T) {
	for ring := 2; ring <= 8; ring++ {
		d := sample.Disk(12)
		for n := range uint32(100) {
			sample.Lay(d, 1, seal.Record(n, 77))
			sample.Lay(d, 2+ring, seal.Record(n, 77))
			tells(t, fmt.Sprintf("record %d beside the ring", n), d, 2, ring, 0, 0)
		}
	}
}

func TestP7_1NoRecord(t *testing.T) {
	for ring := 2; ring <= 8; ring++ {
		good := seal.Record(uint32(ring)+1, 77)
		d := sample.Disk(10)
		sample.Lay(d, 2, good)
		tells(t, "a record", d, 1, ring, uint32(ring)+1, 77)
		for place := range api.SectorSize {
			for bit := range 8 {
				sample.Lay(d, 2, api.Sector(sample.Turned(good[:], place, 1<<bit)))
				tells(t, "a record with a bit turned", d, 1, ring, 0, 0)
			}
		}
		sample.Lay(d, 1, seal.Record(uint32(ring), 66))
		tells(t, "a record, and one with a bit turned", d, 1, ring, uint32(ring), 66)
	}
}

func TestP7_1GreatestCounts(t *testing.T) {
	for _, c := range []struct{ first, second uint32 }{{2, 1}, {2, 3}, {4, 1}, {100, 1}, {math.MaxInt32 + 1, math.MaxInt32}, {math.MaxInt32 - 1, math.MaxInt32}, {2, greatest}, {greatest - 1, greatest}, {greatest - 1, 1}, {1 << 31, 1}, {2, 1<<31 + 1}, {256, 255}, {65536, 65535}} {
		d := sample.Disk(5)
		sample.Lay(d, 2, seal.Record(c.first, 7))
		sample.Lay(d, 3, seal.Record(c.second, 9))
		number, word := c.first, uint64(7)
		if c.second > c.first {
			number, word = c.second, 9
		}
		tells(t, fmt.Sprintf("records %d and %d", c.first, c.second), d, 2, 2, number, word)
	}
}

func TestP7_1TheWordDoesNotCount(t *testing.T) {
	d := sample.Disk(5)
	sample.Lay(d, 2, seal.Record(4, 0))
	sample.Lay(d, 3, seal.Record(3, all))
	tells(t, "4 with 0, 3 with all bits", d, 2, 2, 4, 0)
	sample.Lay(d, 3, seal.Record(5, 0))
	tells(t, "5 with 0", d, 2, 2, 5, 0)
}

// What is cached is what a disk tells of a sector, as long as no crash took it.
func TestP7_1Cached(t *testing.T) {
	d := sample.Disk(5)
	sample.Lay(d, 2, seal.Record(2, 7))
	d.Write(3, seal.Record(3, 9))
	tells(t, "3 is cached", d, 2, 2, 3, 9)
	d.Write(3, api.Sector{})
	tells(t, "noughts are cached", d, 2, 2, 2, 7)
	d.Write(2, api.Sector{})
	tells(t, "noughts are cached for both", d, 2, 2, 0, 0)
	d.Crash(0)
	tells(t, "nothing is cached", d, 2, 2, 2, 7)
}

func TestP7_1WhateverTheSectorsHold(t *testing.T) {
	mixed(func(d *disk.Disk, base, ring int) {
		number, word := sample.RingLatest(d, base, ring)
		tells(t, "sectors of chance", d, base, ring, number, word)
	})
}

func TestP7_1LatestOfNoRing(t *testing.T) {
	for _, size := range []int{1, 2, 8, 9, api.MaxDisk} {
		d := sample.Disk(size)
		for at := range size {
			d.Write(at, seal.Record(uint32(840+at), 7))
		}
		for _, ring := range noRing {
			for _, base := range append([]int{0, 1, size - 1, size, api.MaxDisk}, noBase...) {
				tells(t, fmt.Sprintf("of %d sectors", size), d, base, ring, 0, 0)
			}
		}
		for ring := 2; ring <= 8; ring++ {
			for _, base := range append([]int{size - ring + 1, size - 1, size, size + 1, api.MaxDisk}, noBase...) {
				tells(t, fmt.Sprintf("of %d sectors", size), d, base, ring, 0, 0)
			}
		}
	}
}

func TestP7_1LatestOfABrokenDisk(t *testing.T) {
	for ring := 2; ring <= 8; ring++ {
		d := sample.Disk(ring)
		puts(t, d, 0, ring, 7)
		puts(t, d, 0, ring, 9)
		d.Fuse(0)
		tells(t, "no operation left", d, 0, ring, 2, 9)
		tells(t, "broken", sample.Broken(d), 0, ring, 0, 0)
		d.Crash(all)
		tells(t, "behind the crash", d, 0, ring, 2, 9)
	}
}

// A Put is just that: one record, at its place, written and flushed.
func TestP7_2Put(t *testing.T) {
	put := func(d *disk.Disk, base, ring int, word uint64) {
		want := d.Copy()
		n, _ := sample.RingLatest(d, base, ring)
		sample.RingPut(want, base, ring, word)
		puts(t, d, base, ring, word)
		if !sample.Alike(d, want) {
			t.Errorf("Put(base %d, ring %d) behind record %d is not a Write of record %d, and a Flush", base, ring, n, n+1)
		}
	}
	mixed(func(d *disk.Disk, base, ring int) {
		if n, _ := sample.RingLatest(d, base, ring); n > greatest-20 {
			return
		}
		for i, word := range []uint64{1, 0, all, 1 << 63, 7, 7, 7, 0, 0, 9} {
			if i%3 == 0 {
				d.Write(15, api.Sector{byte(i)})
			}
			put(d, base, ring, word)
		}
	})
}

func TestP7_2PutAtTheEnds(t *testing.T) {
	for ring := 2; ring <= 8; ring++ {
		for _, size := range []int{ring, ring + 1, 2*ring + 1, api.MaxDisk} {
			for _, base := range []int{0, size - ring} {
				d := sample.Disk(size)
				for n := uint32(1); n <= 20; n++ {
					puts(t, d, base, ring, uint64(100+n))
					if got := d.Durable(base + int(n)%ring); got != seal.Record(n, uint64(100+n)) || len(d.Cached()) != 0 || d.Ops() != 2*int(n) {
						t.Errorf("of %d sectors, ring of %d at %d, behind Put %d: %v, Cached %v, Ops %d", size, ring, base, n, got, d.Cached(), d.Ops())
					}
				}
			}
		}
	}
}

func TestP7_2RingsSideBySide(t *testing.T) {
	d := sample.Disk(9)
	for i := range uint64(30) {
		puts(t, d, 0, 2, i)
		puts(t, d, 2, 4, 100+i)
		puts(t, d, 2, 4, 200+i)
		puts(t, d, 6, 3, 300+i)
		tells(t, "the first ring", d, 0, 2, uint32(i+1), i)
		tells(t, "the second ring", d, 2, 4, uint32(2*i+2), 200+i)
		tells(t, "the third ring", d, 6, 3, uint32(i+1), 300+i)
	}
}

func TestP7_2GreatestNumber(t *testing.T) {
	for ring := 2; ring <= 8; ring++ {
		d := sample.Disk(ring + 2)
		sample.Lay(d, sample.RingPlace(greatest-2, 1, ring), seal.Record(greatest-2, 3))
		puts(t, d, 1, ring, 4)
		tells(t, "one is left", d, 1, ring, greatest-1, 4)
		puts(t, d, 1, ring, 5)
		tells(t, "none is left", d, 1, ring, greatest, 5)
		for range 3 {
			refuses(t, "none is left", d, 1, ring, api.ErrRange)
			tells(t, "refused", d, 1, ring, greatest, 5)
		}
		d.Crash(all)
		refuses(t, "behind a crash", d, 1, ring, api.ErrRange)
	}
}

// A record of the greatest number that is not at its place, or beside the ring, is in nobody's way.
func TestP7_2GreatestNumberElsewhere(t *testing.T) {
	for ring := 2; ring <= 8; ring++ {
		for at := range ring + 2 {
			if at == sample.RingPlace(greatest, 1, ring) {
				continue
			}
			d := sample.Disk(ring + 2)
			sample.Lay(d, at, seal.Record(greatest, 3))
			puts(t, d, 1, ring, 4)
			tells(t, "the greatest number elsewhere", d, 1, ring, 1, 4)
		}
	}
}

func TestP7_2NoRing(t *testing.T) {
	for _, size := range []int{1, 2, 8, 9, api.MaxDisk} {
		d := sample.Disk(size)
		d.Write(size-1, api.Sector{7})
		what := fmt.Sprintf("of %d sectors", size)
		for _, ring := range noRing {
			for _, base := range append([]int{0, 1, size, api.MaxDisk}, noBase...) {
				refuses(t, what, d, base, ring, api.ErrArg)
			}
		}
		for ring := 2; ring <= 8; ring++ {
			for _, base := range append([]int{size - ring + 1, size - 1, size, size + 1, api.MaxDisk}, noBase...) {
				refuses(t, what, d, base, ring, api.ErrArg)
			}
		}
	}
}

func TestP7_2TheDiskBreaks(t *testing.T) {
	for ring := 2; ring <= 8; ring++ {
		for k := range 4 {
			d := sample.Disk(ring)
			puts(t, d, 0, ring, 7)
			puts(t, d, 0, ring, 9)
			want := d.Copy()
			d.Fuse(k)
			want.Fuse(k)
			wantE := want.Write(3%ring, seal.Record(3, 11))
			if wantE == api.OK {
				wantE = want.Flush()
			}
			if e := slots.Put(d, 0, ring, 11); e != wantE || !sample.Alike(d, want) {
				t.Errorf("Put with %d operations left: %v, want %v; Broken %v, Cached %v, Ops %d", k, e, wantE, d.Broken(), d.Cached(), d.Ops())
			}
			if d.Broken() != (k < 2) || (wantE == api.ErrDown) != (k < 2) {
				t.Errorf("Put with %d operations left: %v, Broken %v", k, wantE, d.Broken())
			}
		}
	}
}

func TestP7_2ErrorsInOrder(t *testing.T) {
	for ring := 2; ring <= 8; ring++ {
		d := sample.Disk(ring)
		sample.Lay(d, sample.RingPlace(greatest, 0, ring), seal.Record(greatest, 3))
		refuses(t, "no ring, no number", d, 0, ring+9, api.ErrArg)
		refuses(t, "no base, no number", d, 1, ring, api.ErrArg)
		d.Fuse(0)
		refuses(t, "no number, no operation left", d, 0, ring, api.ErrRange)
		refuses(t, "no ring, no number, no operation left", d, 0, 1, api.ErrArg)
		sample.Broken(d)
		refuses(t, "no number, broken", d, 0, ring, api.ErrDown)
		refuses(t, "no ring, broken", d, 0, 9, api.ErrArg)
		refuses(t, "no base, broken", d, -1, ring, api.ErrArg)
		refuses(t, "too few sectors, broken", d, 1, ring, api.ErrArg)
	}
}

func TestR5ADiskThatNoCallMade(t *testing.T) {
	for _, d := range []*disk.Disk{nil, {}, new(disk.Disk)} {
		// Twice: no call makes it.
		for range 2 {
			for _, ring := range append([]int{2, 4, 8}, noRing...) {
				for _, base := range append([]int{0, 1, api.MaxDisk}, noBase...) {
					if n, word := slots.Latest(d, base, ring); n != 0 || word != 0 {
						t.Errorf("Latest(base %d, ring %d): %d, %d, want 0, 0", base, ring, n, word)
					}
					if e := slots.Put(d, base, ring, 7); e != api.ErrMade {
						t.Errorf("Put(base %d, ring %d): %v, want %v", base, ring, e, api.ErrMade)
					}
				}
			}
			if d.Made() || d != nil && fmt.Sprint(*d) != fmt.Sprint(disk.Disk{}) {
				t.Errorf("a Disk that no call made became %v", d)
			}
		}
	}
}
