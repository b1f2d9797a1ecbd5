package role_test

import (
	"math"
	"testing"

	"twain/role"
	"twain/sample"
)

const full = math.MaxUint64

// united: the Union of both, in either order, is want.
func united(t *testing.T, mine, theirs uint64, sectors int, want uint64) {
	t.Helper()
	if got := role.Union(mine, theirs, sectors); got != want {
		t.Fatalf("Union(%#x, %#x, %d): %#x, want %#x", mine, theirs, sectors, got, want)
	}
	if got := role.Union(theirs, mine, sectors); got != want {
		t.Fatalf("Union(%#x, %#x, %d): %#x, want %#x", theirs, mine, sectors, got, want)
	}
}

// sizes: all sizes of a data area, some that are greater, and some that are none.
func sizes() []int {
	var all []int
	for n := -9; n < 300; n++ {
		all = append(all, n)
	}
	return append(append(all, 511, 512, 1023, 1024, 1<<30, -255, -256, -1<<30), sample.Ends()...)
}

func TestP26_1Union(t *testing.T) {
	for _, c := range []struct {
		mine, theirs uint64
		sectors      int
		want         uint64
	}{
		// None, one, several and all extents.
		{0, 0, 256, 0},
		{0, 1, 256, 1},
		{0, 0b1011, 16, 0b1011},
		{0, full, 256, full},
		{1, full, 256, full},
		// The same, some in common, none in common.
		{0b0110, 0b0110, 16, 0b0110},
		{full, full, 256, full},
		{0b0110, 0b0011, 16, 0b0111},
		{0b0101, 0b1010, 16, 0b1111},
		{0x00000000ffffffff, 0xffffffff00000000, 256, full},
		// One within the other one.
		{0b0100, 0b1110, 16, 0b1110},
		// What the data area has not is left out, of the one set, of the other one and of both.
		{0b0101, 0b0010, 8, 0b0011},
		{0b0100, 0b0011, 8, 0b0011},
		{0b1100, 0b1100, 8, 0},
		{full, full, 16, 0b1111},
	} {
		united(t, c.mine, c.theirs, c.sectors, c.want)
	}
}

func TestP26_1UnionOfNoSectors(t *testing.T) {
	for _, sectors := range []int{0, -1, -2, -3, -4, -5, -8, -255, -256, -257, math.MinInt32, 1 - 1<<32, math.MinInt + 1, math.MinInt} {
		for _, set := range []uint64{0, 1, 2, 1 << 63, full} {
			united(t, set, set, sectors, 0)
			united(t, set, full, sectors, 0)
		}
	}
}

// One fewer than an extent has, just as many, one more: an extent that the data area has only in part it has not.
func TestP26_1UnionAtTheBoundaryOfEachExtent(t *testing.T) {
	ahead := uint64(0)
	for e := range 64 {
		with := 2*ahead + 1
		for _, in := range []int{0, 1, 2, 3} {
			united(t, full, 0, 4*e+in, ahead)
			united(t, uint64(1)<<e, 0, 4*e+in, 0)
			united(t, uint64(1)<<e, full, 4*e+in, ahead)
		}
		united(t, full, 0, 4*e+4, with)
		united(t, uint64(1)<<e, 0, 4*e+4, uint64(1)<<e)
		united(t, uint64(1)<<e, uint64(1)<<e, 4*e+5, uint64(1)<<e)
		ahead = with
	}
}

// As many as all extents have, and one fewer: the highest one goes; more than all have: there are no others.
func TestP26_1UnionOfAllExtents(t *testing.T) {
	united(t, full, 0, 255, full>>1)
	united(t, full, full, 252, full>>1)
	for _, sectors := range []int{256, 257, 259, 260, 512, 1024, 1 << 30, math.MaxInt32, 1 << 31, 1 << 32, 1<<32 + 1, 1 << 62, math.MaxInt - 3, math.MaxInt - 1, math.MaxInt} {
		united(t, full, 0, sectors, full)
		united(t, full, full, sectors, full)
		united(t, 1, 1<<63, sectors, 1<<63|1)
		united(t, 0, 0, sectors, 0)
	}
}

func TestP26_1UnionOfTheLowestAndTheHighestAlone(t *testing.T) {
	for sectors, want := range map[int]uint64{0: 0, 3: 0, 4: 1, 5: 1, 252: 1, 255: 1, 256: 1<<63 | 1, 257: 1<<63 | 1} {
		united(t, 1, 1<<63, sectors, want)
		united(t, 1, 0, sectors, want&1)
		united(t, 1<<63, 0, sectors, want&^1)
	}
}

func TestP26_1UnionExtentByExtent(t *testing.T) {
	words := sample.Words()
	for i, sectors := range sizes() {
		for j, mine := range words {
			if theirs := words[(j*7+i)%len(words)]; j%13 == i%13 {
				united(t, mine, theirs, sectors, sample.Union(mine, theirs, sectors))
			}
		}
	}
}

// All pairs of sets of the first extents, with each size that cuts some of them off.
func TestP26_1UnionOfAllSmallSets(t *testing.T) {
	for mine := range uint64(32) {
		for theirs := range uint64(32) {
			for sectors := -1; sectors < 25; sectors++ {
				united(t, mine, theirs, sectors, sample.Union(mine, theirs, sectors))
			}
		}
	}
}
