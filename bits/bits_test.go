package bits_test

import (
	"math"
	"slices"
	"testing"

	"twain/bits"
	"twain/sample"
)

const full = math.MaxUint64

// sets: samples, and those with whole halves and every other number.
func sets() []uint64 {
	return append(sample.Words(), 1<<63|1, 0x5555555555555555, 0xaaaaaaaaaaaaaaaa, 0x00000000ffffffff, 0xffffffff00000000)
}

// word: the sum of the numbers' bits. The numbers are from 0 to 63, each at most once.
func word(l []int) uint64 {
	var w uint64
	for _, n := range l {
		w += uint64(1) << n
	}
	return w
}

func TestP1_1One(t *testing.T) {
	want := uint64(1)
	for n := range 64 {
		if got := bits.One(n); got != want {
			t.Errorf("One(%d): %#x, want %#x", n, got, want)
		}
		want *= 2
	}
	for _, n := range sample.NoExtents() {
		if got := bits.One(n); got != 0 {
			t.Errorf("One(%d): %#x, want the empty set", n, got)
		}
	}
}

func TestP1_1HasWithWithout(t *testing.T) {
	for _, set := range sets() {
		for n := range 64 {
			in := slices.Contains(sample.Members(set), n)
			with, without := set, set
			if in {
				without -= uint64(1) << n
			} else {
				with += uint64(1) << n
			}
			if got := bits.Has(set, n); got != in {
				t.Fatalf("Has(%#x, %d): %v, want %v", set, n, got, in)
			}
			if got := bits.With(set, n); got != with {
				t.Fatalf("With(%#x, %d): %#x, want %#x", set, n, got, with)
			}
			if got := bits.Without(set, n); got != without {
				t.Fatalf("Without(%#x, %d): %#x, want %#x", set, n, got, without)
			}
		}
	}
}

func TestP1_1OfAnotherNumberTheSet(t *testing.T) {
	for _, set := range sets() {
		for _, n := range sample.NoExtents() {
			if bits.Has(set, n) {
				t.Fatalf("Has(%#x, %d): true", set, n)
			}
			if got := bits.With(set, n); got != set {
				t.Fatalf("With(%#x, %d): %#x", set, n, got)
			}
			if got := bits.Without(set, n); got != set {
				t.Fatalf("Without(%#x, %d): %#x", set, n, got)
			}
		}
	}
}

func TestP1_1Of(t *testing.T) {
	for _, c := range []struct {
		list []int
		want uint64
	}{
		{nil, 0},
		{[]int{}, 0},
		{[]int{0}, 1},
		{[]int{63}, 1 << 63},
		{[]int{3, 1, 64}, 10},
		{[]int{1, 3, 1, 3, 3}, 10},
		{[]int{63, 0, -1, 64, 62}, 1<<63 | 1<<62 | 1},
		{[]int{math.MinInt, 5, math.MaxInt}, 1 << 5},
		{sample.NoExtents(), 0},
	} {
		if got := bits.Of(c.list); got != c.want {
			t.Errorf("Of(%v): %#x, want %#x", c.list, got, c.want)
		}
	}
}

func TestP1_1OfWhateverTheOrder(t *testing.T) {
	for _, set := range sets() {
		l := slices.Concat(sample.Members(set), sample.NoExtents(), sample.Members(set))
		slices.Reverse(l)
		if got := bits.Of(l); got != set {
			t.Fatalf("Of(%v): %#x, want %#x", l, got, set)
		}
	}
}

func TestP1_1OfLeavesItsListAlone(t *testing.T) {
	room := []int{9, -1, 64, 9, 2, 7, 8}
	was := slices.Clone(room)
	if got := bits.Of(room[:5]); got != 1<<9|1<<2 {
		t.Errorf("Of(%v): %#x", room[:5], got)
	}
	if !slices.Equal(room, was) {
		t.Errorf("the list and the room behind it: %v, were %v", room, was)
	}
}

func TestP1_2Count(t *testing.T) {
	if got := bits.Count(0); got != 0 {
		t.Errorf("Count of the empty set: %d", got)
	}
	if got := bits.Count(full); got != 64 {
		t.Errorf("Count of the full set: %d", got)
	}
	for _, set := range sets() {
		if got, want := bits.Count(set), len(sample.Members(set)); got != want {
			t.Fatalf("Count(%#x): %d, want %d", set, got, want)
		}
	}
}

func TestP1_2Lowest(t *testing.T) {
	if n, ok := bits.Lowest(0); n != 0 || ok {
		t.Errorf("Lowest of the empty set: %d, %v", n, ok)
	}
	for _, set := range sets() {
		if set == 0 {
			continue
		}
		want := sample.Members(set)[0]
		if n, ok := bits.Lowest(set); n != want || !ok {
			t.Fatalf("Lowest(%#x): %d, %v, want %d, true", set, n, ok, want)
		}
	}
}

func TestP1_2List(t *testing.T) {
	if got := bits.List(0); len(got) != 0 {
		t.Errorf("List of the empty set: %v", got)
	}
	if got := bits.List(10); !slices.Equal(got, []int{1, 3}) {
		t.Errorf("List(10): %v", got)
	}
	for _, set := range sets() {
		if got, want := bits.List(set), sample.Members(set); !slices.Equal(got, want) {
			t.Fatalf("List(%#x): %v, want %v", set, got, want)
		}
	}
}

func TestP1_2ListIsNewMemory(t *testing.T) {
	for _, set := range sets() {
		a := bits.List(set)
		a = a[:cap(a)]
		for i := range a {
			a[i] = -7
		}
		if got := bits.List(set); !slices.Equal(got, sample.Members(set)) {
			t.Fatalf("List(%#x) behind a change of an earlier answer: %v", set, got)
		}
	}
}

func TestP1_2Row(t *testing.T) {
	for from := range 64 {
		var want []int
		for n := 1; n <= 130; n++ {
			if next := from + n - 1; next < 64 {
				want = append(want, next)
			}
			if got := bits.Row(from, n); got != word(want) {
				t.Errorf("Row(%d, %d): %#x, want %#x", from, n, got, word(want))
			}
		}
		for _, n := range []int{math.MaxInt32, math.MaxInt - 63, math.MaxInt - 1, math.MaxInt} {
			if got := bits.Row(from, n); got != word(want) {
				t.Errorf("Row(%d, %d): %#x, want %#x", from, n, got, word(want))
			}
		}
	}
}

func TestP1_2RowAtTheEdges(t *testing.T) {
	for _, c := range []struct {
		from, n int
		want    uint64
	}{
		{0, 1, 1},
		{0, 63, full >> 1},
		{0, 64, full},
		{0, 65, full},
		{1, 63, full - 1},
		{62, 2, 3 << 62},
		{62, 5, 3 << 62},
		{63, 1, 1 << 63},
		{63, math.MaxInt, 1 << 63},
	} {
		if got := bits.Row(c.from, c.n); got != c.want {
			t.Errorf("Row(%d, %d): %#x, want %#x", c.from, c.n, got, c.want)
		}
	}
}

func TestP1_2RowThatIsEmpty(t *testing.T) {
	for _, from := range slices.Concat(sample.NoExtents(), []int{0, 1, 31, 62, 63}) {
		for _, n := range []int{0, -1, -64, math.MinInt32, math.MinInt + 1, math.MinInt} {
			if got := bits.Row(from, n); got != 0 {
				t.Errorf("Row(%d, %d): %#x, want the empty set", from, n, got)
			}
		}
	}
	// A row that begins outside is empty even where it would reach inside.
	for _, from := range sample.NoExtents() {
		for _, n := range []int{1, 2, 63, 64, 65, 128, math.MaxInt - 1, math.MaxInt} {
			if got := bits.Row(from, n); got != 0 {
				t.Errorf("Row(%d, %d): %#x, want the empty set", from, n, got)
			}
		}
	}
}

func TestP1_3ASetComesBackFromItsList(t *testing.T) {
	for _, set := range sets() {
		if got := bits.Of(bits.List(set)); got != set {
			t.Fatalf("Of(List(%#x)): %#x", set, got)
		}
	}
	for from := range 64 {
		for n := range 66 {
			set := bits.Row(from, n)
			if got := bits.Of(bits.List(set)); got != set {
				t.Fatalf("Of(List(Row(%d, %d))): %#x, want %#x", from, n, got, set)
			}
		}
	}
}
