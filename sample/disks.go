package sample

import (
	"slices"

	"twain/disk"
)

// Alike: do two disks tell the same, of each sector too? A copy made ahead of a call shows so what the call did.
func Alike(a, b *disk.Disk) bool {
	if a.Size() != b.Size() || a.Broken() != b.Broken() || a.Ops() != b.Ops() || !slices.Equal(a.Cached(), b.Cached()) {
		return false
	}
	for at := range a.Size() {
		one, e := a.Read(at)
		two, other := b.Read(at)
		if one != two || e != other || a.Durable(at) != b.Durable(at) {
			return false
		}
	}
	return true
}
