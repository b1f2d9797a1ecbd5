package sample_test

import (
	"bytes"
	"math"
	"slices"
	"testing"

	"twain/sample"
)

func TestEnds(t *testing.T) {
	list := sample.Ends()
	if slices.Min(list) != math.MinInt || slices.Max(list) != math.MaxInt {
		t.Errorf("from %d to %d", slices.Min(list), slices.Max(list))
	}
	for small := range 3 {
		if !slices.ContainsFunc(list, func(n int) bool { return n != small && uint32(n) == uint32(small) }) {
			t.Errorf("none looks like %d", small)
		}
	}
	sample.Spoil(list)
	if slices.Min(sample.Ends()) != math.MinInt {
		t.Error("two answers share memory")
	}
}

// Tickets rise from the first one to the last one that may be; none of the others may be.
func TestTickets(t *testing.T) {
	list := sample.Tickets()
	if n := len(list); list[0] != 1 || list[n-1] != math.MaxInt || !slices.IsSorted(list) || len(slices.Compact(list)) != n {
		t.Errorf("Tickets: %v", sample.Tickets())
	}
	not := sample.NoTickets()
	if slices.Max(not) != 0 || slices.Min(not) != math.MinInt || !slices.Contains(not, -1) {
		t.Errorf("NoTickets: %v", not)
	}
	sample.Spoil(list)
	sample.Spoil(not)
	if sample.Tickets()[0] != 1 || sample.NoTickets()[0] != 0 {
		t.Error("two answers share memory")
	}
}

// The kinds are all three; none of the others is one, and those beside them, and both ends of an int, are there.
func TestKinds(t *testing.T) {
	list, not := sample.Kinds(), sample.NoKinds()
	if !slices.Equal(list, []int{0, 1, 2}) {
		t.Errorf("Kinds: %v", list)
	}
	if slices.ContainsFunc(not, func(n int) bool { return n >= 0 && n <= 2 }) {
		t.Errorf("NoKinds: %v: one of them is a kind", not)
	}
	for _, n := range []int{math.MinInt, -1, 3, 256, 1<<32 + 2, math.MaxInt} {
		if !slices.Contains(not, n) {
			t.Errorf("NoKinds: %d is not there", n)
		}
	}
	sample.Spoil(list)
	sample.Spoil(not)
	if sample.Kinds()[0] != 0 || sample.NoKinds()[0] != -1 {
		t.Error("two answers share memory")
	}
}

// No number from 0 to 63 is among them, and those beside these, and both ends of an int, are.
func TestNoExtents(t *testing.T) {
	list := sample.NoExtents()
	if slices.ContainsFunc(list, func(n int) bool { return n >= 0 && n <= 63 }) {
		t.Errorf("%v: one of them is an extent", list)
	}
	if n := len(list); !slices.IsSorted(list) || len(slices.Compact(slices.Clone(list))) != n {
		t.Errorf("%v does not rise", list)
	}
	for _, n := range []int{math.MinInt, -1, 64, 1 << 32, math.MaxInt} {
		if !slices.Contains(list, n) {
			t.Errorf("%d is not there", n)
		}
	}
	sample.Spoil(list)
	if sample.NoExtents()[0] != math.MinInt {
		t.Error("two answers share memory")
	}
}

func TestMembers(t *testing.T) {
	for _, c := range []struct {
		set  uint64
		want []int
	}{{0, nil}, {1, []int{0}}, {10, []int{1, 3}}, {1 << 63, []int{63}}, {1<<63 + 1<<32 + 1<<31 + 1, []int{0, 31, 32, 63}}} {
		if got := sample.Members(c.set); !slices.Equal(got, c.want) {
			t.Errorf("Members(%#x): %v, want %v", c.set, got, c.want)
		}
	}
	for _, set := range sample.Words() {
		var sum uint64
		for _, n := range sample.Members(set) {
			sum += 1 << n
		}
		if sum != set || !slices.IsSorted(sample.Members(set)) {
			t.Fatalf("Members(%#x): %v", set, sample.Members(set))
		}
	}
}

// The number is gone, and all others are left, of each set and each number, and of those that are none.
func TestWithout(t *testing.T) {
	for _, c := range []struct {
		set    uint64
		number int
		want   uint64
	}{{6, 1, 4}, {6, 0, 6}, {4, 2, 0}, {1<<63 + 1, 63, 1}, {math.MaxUint64, 0, math.MaxUint64 - 1}, {6, -1, 6}, {6, 65, 6}, {0, 3, 0}} {
		if got := sample.Without(c.set, c.number); got != c.want {
			t.Errorf("Without(%#x, %d): %#x, want %#x", c.set, c.number, got, c.want)
		}
	}
	for _, set := range sample.Words() {
		for _, n := range sample.Members(set) {
			if got := sample.Without(set, n); got != set-1<<n {
				t.Fatalf("Without(%#x, %d): %#x", set, n, got)
			}
		}
		for _, n := range sample.NoExtents() {
			if got := sample.Without(set, n); got != set {
				t.Fatalf("Without(%#x, %d): %#x", set, n, got)
			}
		}
	}
}

// The ends are among them, and no word is there twice.
func TestFewWords(t *testing.T) {
	list := sample.FewWords()
	if slices.Min(list) != 0 || slices.Max(list) != math.MaxUint64 || !slices.Contains(list, 1) || !slices.Contains(list, 1<<63) {
		t.Errorf("FewWords: %v", list)
	}
	slices.Sort(list)
	if n := len(list); len(slices.Compact(list)) != n {
		t.Errorf("FewWords: one of %v is there twice", list)
	}
}

// So many bytes each, all of another sort, and none shares memory with another.
func TestSorts(t *testing.T) {
	for _, size := range []int{1, 16, 64} {
		first, second := sample.Sorts(size), sample.Sorts(size)
		for i, b := range first {
			if len(b) != size || size > 1 && slices.ContainsFunc(first[:i], func(other []byte) bool { return bytes.Equal(other, b) }) {
				t.Errorf("Sorts(%d): %v", size, first)
			}
			sample.Spoil(b)
			if bytes.Equal(b, second[i]) || i > 0 && !bytes.Equal(first[0], first[i]) {
				t.Errorf("Sorts(%d): answers share memory", size)
			}
		}
	}
}

func TestHighestFirst(t *testing.T) {
	for _, c := range []struct {
		n    uint64
		size int
		want []byte
	}{{258, 2, []byte{1, 2}}, {258, 1, []byte{2}}, {258, 4, []byte{0, 0, 1, 2}}, {0x0102030405060708, 8, []byte{1, 2, 3, 4, 5, 6, 7, 8}}, {1<<64 - 1, 8, bytes.Repeat([]byte{255}, 8)}, {7, 0, nil}} {
		if got := sample.HighestFirst(c.n, c.size); !bytes.Equal(got, c.want) {
			t.Errorf("HighestFirst(%d, %d): %v, want %v", c.n, c.size, got, c.want)
		}
	}
}

func TestNumber(t *testing.T) {
	for _, c := range []struct {
		b    []byte
		want uint64
	}{{nil, 0}, {[]byte{7}, 7}, {[]byte{1, 2}, 258}, {[]byte{0, 0, 1, 2}, 258}, {[]byte{1, 2, 3, 4, 5, 6, 7, 8}, 0x0102030405060708}, {bytes.Repeat([]byte{255}, 8), 1<<64 - 1}} {
		if got := sample.Number(c.b); got != c.want {
			t.Errorf("Number(%v): %d, want %d", c.b, got, c.want)
		}
	}
}

// turned: how many there are of each place at which the first byte is turned. Each is as long as b, is another one, and differs within four side by side.
func turned(t *testing.T, b []byte, others func(func([]byte) bool)) map[int]int {
	t.Helper()
	count := map[int]int{}
	for other := range others {
		var at []int
		for i := range b {
			if other[i] != b[i] {
				at = append(at, i)
			}
		}
		if len(other) != len(b) || len(at) == 0 || at[len(at)-1]-at[0] > 3 {
			t.Fatalf("of %v: %v, turned at %v", b, other, at)
		}
		count[at[0]]++
	}
	return count
}

func TestOthers(t *testing.T) {
	for _, size := range []int{0, 1, 2, 3, 4, 5, 12, 13, 40} {
		b := sample.Bytes(size)
		some, all := turned(t, b, sample.Others(b)), turned(t, b, sample.OthersEverywhere(b))
		for place := range size {
			if all[place] < 100 {
				t.Errorf("OthersEverywhere of %d bytes: %d are turned from %d on", size, all[place], place)
			}
			if (place < 4 || place >= size-8) && some[place] < 100 {
				t.Errorf("Others of %d bytes: %d are turned from %d on", size, some[place], place)
			}
		}
		if !bytes.Equal(b, sample.Bytes(size)) {
			t.Errorf("of %d bytes: they became %v", size, b)
		}
	}
}

func TestRank(t *testing.T) {
	var bits []uint32
	for bit := range 32 {
		bits = append(bits, 1<<bit)
	}
	for _, c := range []struct {
		words []uint32
		want  int
	}{{nil, 0}, {[]uint32{0}, 0}, {[]uint32{5}, 1}, {[]uint32{5, 5, 0}, 1}, {[]uint32{5, 3}, 2}, {[]uint32{5, 3, 6}, 2}, {[]uint32{5, 3, 4}, 3}, {[]uint32{1 << 31, 1<<31 + 1, 1}, 2}, {bits, 32}, {append(slices.Clone(bits), 9, 1<<32-1), 32}, {bits[3:], 29}} {
		was := slices.Clone(c.words)
		if got := sample.Rank(c.words); got != c.want || !slices.Equal(c.words, was) {
			t.Errorf("Rank(%v): %d, want %d; the words became %v", was, got, c.want, c.words)
		}
	}
}

// Neither node is among them, and those beside both, and both ends of an int, are.
func TestNoNodes(t *testing.T) {
	list := sample.NoNodes()
	for _, n := range []int{0, 1} {
		if slices.Contains(list, n) {
			t.Errorf("%d is there", n)
		}
	}
	for _, n := range []int{math.MinInt, -1, 2, 1<<32 + 1, math.MaxInt} {
		if !slices.Contains(list, n) {
			t.Errorf("%d is not there", n)
		}
	}
	sample.Spoil(list)
	if sample.NoNodes()[0] != -3 {
		t.Error("two answers share memory")
	}
}

// An extent is there with its last sector, whichever of the sets has it.
func TestUnion(t *testing.T) {
	for _, c := range []struct {
		mine, theirs uint64
		sectors      int
		want         uint64
	}{
		{5, 2, 12, 7}, {5, 2, 11, 3}, {5, 2, 8, 3}, {5, 3, 4, 1}, {5, 2, 3, 0}, {5, 2, 0, 0}, {5, 2, -4, 0}, {0, 0, 256, 0},
		{math.MaxUint64, 0, 256, math.MaxUint64}, {0, math.MaxUint64, 255, math.MaxUint64 >> 1}, {1 << 63, 1, math.MaxInt, 1<<63 + 1}, {1, 1, math.MinInt, 0},
	} {
		if got := sample.Union(c.mine, c.theirs, c.sectors); got != c.want {
			t.Errorf("Union(%#x, %#x, %d): %#x, want %#x", c.mine, c.theirs, c.sectors, got, c.want)
		}
	}
}
