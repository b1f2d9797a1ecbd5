package sample

import (
	"slices"

	"twain/api"
	"twain/disk"
)

// Disk: a new disk of n sectors; nil, if none has so many.
func Disk(n int) *disk.Disk {
	d, _ := disk.New(n)
	return d
}

// Lay: the sector is durable there, whoever wrote it, as is all that was cached.
func Lay(d *disk.Disk, at int, s api.Sector) {
	d.Write(at, s)
	d.Flush()
}

// Broken: the disk, broken, with what it holds as it was.
func Broken(d *disk.Disk) *disk.Disk {
	d.Fuse(0)
	d.Flush()
	return d
}

// Pattern: bytes for n sectors, each time of another kind others.
func Pattern(kind, n int) []byte {
	b := Bytes(api.SectorSize*n + kind%50)[kind%50:]
	for i := range b {
		b[i] ^= byte(kind * 11)
	}
	return b
}

// Filled: a disk of that size with bytes in each sector, all of them durable; none of its sectors is a record.
func Filled(size int) *disk.Disk {
	d := Disk(size)
	b := Pattern(7, size)
	for at := range size {
		d.Write(at, api.Sector(b[api.SectorSize*at:]))
	}
	d.Flush()
	return d
}

// Knowing: a disk as Filled has it, but for that log and that bitmap.
func Knowing(size int, hot, dirty uint64) *disk.Disk {
	d := Filled(size)
	RingLay(d, 2, 4, 5, hot)
	RingLay(d, 6, 2, 5, dirty)
	return d
}

// HasExtent: has the disk all four sectors of extent e?
func HasExtent(d *disk.Disk, e int) bool { return e >= 0 && e <= 63 && 8+4*e+3 < d.Size() }

// ExtentBytes: what extent e of a disk that works tells.
func ExtentBytes(d *disk.Disk, e int) []byte {
	var b []byte
	for i := range 4 {
		s, _ := d.Read(8 + 4*e + i)
		b = append(b, s[:]...)
	}
	return b
}

// Alike: do two disks tell the same, of each sector too? A copy made ahead of a call shows so what the call did.
func Alike(a, b *disk.Disk) bool {
	if a.Size() != b.Size() || a.Broken() != b.Broken() || a.Ops() != b.Ops() || !slices.Equal(a.Cached(), b.Cached()) {
		return false
	}
	for at := range a.Size() {
		one, e := a.Read(at)
		two, other := b.Read(at)
		if one != two || e != other || a.Durable(at) != b.Durable(at) {
			return false
		}
	}
	return true
}
