package sample

import (
	"math"

	"twain/api"
	"twain/disk"
	"twain/seal"
)

// RingPlace: where record n of a ring stands, by chapter 7's words.
func RingPlace(n uint32, base, ring int) int {
	return base + int(int64(n)%int64(ring))
}

// RingLatest: the number and the word of a ring's latest record, by chapter 7's words for a disk that works.
func RingLatest(d *disk.Disk, base, ring int) (uint32, uint64) {
	var number uint32
	var latest uint64
	for at := base; at < base+ring; at++ {
		s, _ := d.Read(at)
		if n, word, ok := seal.Open(s); ok && n > 0 && RingPlace(n, base, ring) == at && n >= number {
			number, latest = n, word
		}
	}
	return number, latest
}

// RingWord: what the ring's latest record tells; 0 of a disk that has not all of the ring, or is broken.
func RingWord(d *disk.Disk, base, ring int) uint64 {
	if d.Size() < base+ring {
		return 0
	}
	_, word := RingLatest(d, base, ring)
	return word
}

// RingLay: the ring has that record, at its place.
func RingLay(d *disk.Disk, base, ring int, n uint32, word uint64) {
	Lay(d, RingPlace(n, base, ring), seal.Record(n, word))
}

// RingPut: a Write of just the next record of a ring, and a Flush, as far as the disk can do them, by chapter 7's words for a disk that works and has the ring, and a number left.
func RingPut(d *disk.Disk, base, ring int, word uint64) api.Errno {
	n, _ := RingLatest(d, base, ring)
	n++
	if e := d.Write(RingPlace(n, base, ring), seal.Record(n, word)); e != api.OK {
		return e
	}
	return d.Flush()
}

// RingTurn: what the Put of a log, or of a bitmap, does, by the words of chapters 10 and 11: nothing, if the ring's latest word is that already; else a RingPut.
func RingTurn(d *disk.Disk, base, ring int, word uint64) api.Errno {
	if _, has := RingLatest(d, base, ring); has == word {
		return api.OK
	}
	return RingPut(d, base, ring, word)
}

// RingSector: what a word of no pattern chooses for sector i of a ring: mostly a record at its place, of a number that is small, or great, or any.
func RingSector(w uint64, i, ring int) api.Sector {
	n := uint32(w>>8) % 30
	switch w & 3 {
	case 0:
		n = uint32(w >> 8)
	case 1:
		n = math.MaxUint32 - 10 - n
	}
	switch w >> 2 & 15 {
	case 0:
		return api.Sector{}
	case 1:
		good := seal.Record(n, w)
		return api.Sector(Turned(good[:], int(w>>40)%16, 1<<(w>>50%8)))
	case 2:
		return seal.Record(0, w)
	case 3:
		return seal.Record(n, w)
	}
	return seal.Record(n-n%uint32(ring)+uint32(i), w)
}
