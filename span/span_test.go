package span_test

import (
	"math"
	"testing"

	"twain/api"
	"twain/bits"
	"twain/sample"
	"twain/span"
)

// most: the greatest Off and Len of a plain span.
const most = sample.MostSectors

// sectors: the set of the sectors of a small span.
func sectors(s api.Span) uint64 {
	var set uint64
	for n := range 64 {
		if sample.InSpan(s, n) {
			set = bits.With(set, n)
		}
	}
	return set
}

func TestP4_1Plain(t *testing.T) {
	for _, s := range sample.Spans() {
		if !span.Plain(s) {
			t.Errorf("Plain(%v): false", s)
		}
	}
	for _, s := range sample.NoSpans() {
		if span.Plain(s) {
			t.Errorf("Plain(%v): true", s)
		}
	}
}

func TestP4_1PlainAtTheEdges(t *testing.T) {
	for n, want := range map[int]bool{-1: false, 0: true, 1: true, 1073741823: true, 1073741824: true, 1073741825: false} {
		for _, s := range []api.Span{{Off: n}, {Off: n, Len: 1}, {Len: n}, {Off: 1, Len: n}, {Off: n, Len: n}} {
			if got := span.Plain(s); got != want {
				t.Errorf("Plain(%v): %v, want %v", s, got, want)
			}
		}
	}
}

func TestP4_1End(t *testing.T) {
	for _, c := range []struct {
		s    api.Span
		want int
	}{
		{api.Span{}, 0},
		{api.Span{Off: 0, Len: 1}, 1},
		{api.Span{Off: 1, Len: 0}, 1},
		{api.Span{Off: 2, Len: 3}, 5},
		{api.Span{Off: 252, Len: 4}, 256},
		{api.Span{Off: most}, 1073741824},
		{api.Span{Len: most}, 1073741824},
		{api.Span{Off: most - 1, Len: most}, 2147483647},
		{api.Span{Off: most, Len: most}, 2147483648},
	} {
		if got := span.End(c.s); got != c.want {
			t.Errorf("End(%v): %d, want %d", c.s, got, c.want)
		}
	}
	for _, s := range sample.Spans() {
		if got := span.End(s); got-s.Off != s.Len {
			t.Errorf("End(%v): %d", s, got)
		}
	}
}

func TestP4_1EndOfOneThatIsNotPlain(t *testing.T) {
	for _, s := range sample.NoSpans() {
		if got := span.End(s); got != 0 {
			t.Errorf("End(%v): %d, want 0", s, got)
		}
	}
}

func TestP4_1Good(t *testing.T) {
	for _, c := range []struct {
		s       api.Span
		sectors int
		want    bool
	}{
		{api.Span{Off: 0, Len: 1}, 1, true},
		{api.Span{Off: 0, Len: 1}, 0, false},
		{api.Span{Off: 0, Len: 1}, -1, false},
		{api.Span{Off: 1, Len: 1}, 1, false},
		{api.Span{Off: 3, Len: 4}, 6, false},
		{api.Span{Off: 3, Len: 4}, 7, true},
		{api.Span{Off: 3, Len: 4}, 8, true},
		{api.Span{Off: 15, Len: 1}, 16, true},
		{api.Span{Off: 15, Len: 2}, 16, false},
		{api.Span{Off: 16, Len: 1}, 16, false},
		{api.Span{Off: 0, Len: 256}, 256, true},
		{api.Span{Off: 0, Len: 257}, 256, false},
		{api.Span{Off: most, Len: most}, 2*most - 1, false},
		{api.Span{Off: most, Len: most}, 2 * most, true},
		{api.Span{Off: most, Len: most}, 2*most + 1, true},
		{api.Span{Off: most, Len: most}, math.MaxInt, true},
		{api.Span{Off: most, Len: most + 1}, math.MaxInt, false},
		{api.Span{Off: most + 1, Len: most}, math.MaxInt, false},
		{api.Span{Off: 0, Len: -1}, 16, false},
		{api.Span{Off: -1, Len: 2}, 16, false},
		{api.Span{Off: math.MaxInt, Len: 1}, 16, false},
	} {
		if got := span.Good(c.s, c.sectors); got != c.want {
			t.Errorf("Good(%v, %d): %v, want %v", c.s, c.sectors, got, c.want)
		}
	}
}

func TestP4_1GoodJustWhereItsLastSectorIs(t *testing.T) {
	for _, s := range sample.Spans() {
		end := s.Off + s.Len
		for _, n := range []int{math.MinInt, -end, -1, 0, s.Off, s.Len, end - 1, end, end + 1, math.MaxInt} {
			want := s.Len != 0 && n > end-1
			if got := span.Good(s, n); got != want {
				t.Fatalf("Good(%v, %d): %v, want %v", s, n, got, want)
			}
		}
	}
}

func TestP4_1NoOtherOneIsGood(t *testing.T) {
	list := sample.NoSpans()
	for _, s := range sample.Spans() {
		list = append(list, api.Span{Off: s.Off}) // plain, but of no sector
	}
	for _, s := range list {
		for _, n := range []int{math.MinInt, -1, 0, 1, 16, 256, most, 2 * most, math.MaxInt} {
			if span.Good(s, n) {
				t.Errorf("Good(%v, %d): true", s, n)
			}
		}
	}
}

func TestP4_1NothingMeetsOneThatIsNotPlain(t *testing.T) {
	none := func(a, b api.Span) {
		t.Helper()
		if span.Overlap(a, b) || span.Holds(a, b) {
			t.Fatalf("%v and %v: Overlap %v, Holds %v", a, b, span.Overlap(a, b), span.Holds(a, b))
		}
		if got, ok := span.Meet(a, b); got != (api.Span{}) || ok {
			t.Fatalf("Meet(%v, %v): %v, %v, want no span", a, b, got, ok)
		}
	}
	others := []api.Span{{}, {Off: 0, Len: 1}, {Off: 1, Len: 1}, {Off: 4, Len: 4}, {Len: most}, {Off: most, Len: 1}, {Off: most, Len: most}}
	for _, s := range sample.NoSpans() {
		for _, other := range others {
			none(s, other)
			none(other, s)
		}
		for _, other := range sample.NoSpans() {
			none(s, other)
		}
	}
}

func TestP4_1NoExtentsOfOneThatIsNotPlain(t *testing.T) {
	for _, s := range sample.NoSpans() {
		if got := span.Extents(s); got != 0 {
			t.Errorf("Extents(%v): %#x, want none", s, got)
		}
	}
}

// pair is two spans, and what is in both; the zero span if nothing is.
type pair struct {
	a, b, both api.Span
	holds      bool
}

func pairs() []pair {
	return []pair{
		// The chapter's: sectors 2 to 4 and 4 to 5.
		{api.Span{Off: 2, Len: 3}, api.Span{Off: 4, Len: 2}, api.Span{Off: 4, Len: 1}, false},
		{api.Span{Off: 4, Len: 2}, api.Span{Off: 2, Len: 3}, api.Span{Off: 4, Len: 1}, false},
		// One ends where the other one begins.
		{api.Span{Off: 2, Len: 2}, api.Span{Off: 4, Len: 2}, api.Span{}, false},
		{api.Span{Off: 4, Len: 2}, api.Span{Off: 2, Len: 2}, api.Span{}, false},
		{api.Span{Off: 2, Len: 2}, api.Span{Off: 5, Len: 2}, api.Span{}, false},
		// One within the other one, at its beginning, its end, and between.
		{api.Span{Off: 0, Len: 4}, api.Span{Off: 1, Len: 2}, api.Span{Off: 1, Len: 2}, true},
		{api.Span{Off: 1, Len: 2}, api.Span{Off: 0, Len: 4}, api.Span{Off: 1, Len: 2}, false},
		{api.Span{Off: 0, Len: 4}, api.Span{Off: 0, Len: 1}, api.Span{Off: 0, Len: 1}, true},
		{api.Span{Off: 0, Len: 4}, api.Span{Off: 3, Len: 1}, api.Span{Off: 3, Len: 1}, true},
		{api.Span{Off: 0, Len: 1}, api.Span{Off: 0, Len: 4}, api.Span{Off: 0, Len: 1}, false},
		{api.Span{Off: 0, Len: 4}, api.Span{Off: 3, Len: 2}, api.Span{Off: 3, Len: 1}, false},
		// The same.
		{api.Span{Off: 0, Len: 1}, api.Span{Off: 0, Len: 1}, api.Span{Off: 0, Len: 1}, true},
		{api.Span{Off: 7, Len: 3}, api.Span{Off: 7, Len: 3}, api.Span{Off: 7, Len: 3}, true},
		// Of no sector: beside, within, and the same.
		{api.Span{}, api.Span{}, api.Span{}, false},
		{api.Span{}, api.Span{Off: 0, Len: 1}, api.Span{}, false},
		{api.Span{Off: 0, Len: 1}, api.Span{}, api.Span{}, false},
		{api.Span{Off: 5}, api.Span{Off: 5}, api.Span{}, false},
		{api.Span{Off: 2, Len: 4}, api.Span{Off: 2}, api.Span{}, false},
		{api.Span{Off: 2, Len: 4}, api.Span{Off: 4}, api.Span{}, false},
		{api.Span{Off: 4}, api.Span{Off: 2, Len: 4}, api.Span{}, false},
		{api.Span{Off: 2, Len: 4}, api.Span{Off: 6}, api.Span{}, false},
		// At the greatest numbers.
		{api.Span{Len: most}, api.Span{Off: most, Len: most}, api.Span{}, false},
		{api.Span{Off: 1, Len: most}, api.Span{Off: most, Len: most}, api.Span{Off: most, Len: 1}, false},
		{api.Span{Off: most, Len: most}, api.Span{Off: most, Len: 1}, api.Span{Off: most, Len: 1}, true},
		{api.Span{Off: most, Len: most}, api.Span{Off: most, Len: most}, api.Span{Off: most, Len: most}, true},
		{api.Span{Off: most - 1, Len: 1}, api.Span{Off: most, Len: 1}, api.Span{}, false},
		{api.Span{Off: most}, api.Span{Len: most}, api.Span{}, false},
	}
}

func TestP4_2Pairs(t *testing.T) {
	for _, p := range pairs() {
		want := p.both != api.Span{}
		if got := span.Overlap(p.a, p.b); got != want {
			t.Errorf("Overlap(%v, %v): %v, want %v", p.a, p.b, got, want)
		}
		if got, ok := span.Meet(p.a, p.b); got != p.both || ok != want {
			t.Errorf("Meet(%v, %v): %v, %v, want %v, %v", p.a, p.b, got, ok, p.both, want)
		}
		if got := span.Holds(p.a, p.b); got != p.holds {
			t.Errorf("Holds(%v, %v): %v, want %v", p.a, p.b, got, p.holds)
		}
	}
}

func TestP4_2SectorBySector(t *testing.T) {
	for _, a := range sample.SmallSpans(13) {
		for _, b := range sample.SmallSpans(13) {
			both := sectors(a) & sectors(b)
			if got := span.Overlap(a, b); got != (both != 0) {
				t.Fatalf("Overlap(%v, %v): %v", a, b, got)
			}
			if got := span.Holds(a, b); got != (both == sectors(b) && b.Len > 0) {
				t.Fatalf("Holds(%v, %v): %v", a, b, got)
			}
			want := api.Span{}
			if first, ok := bits.Lowest(both); ok {
				want = api.Span{Off: first, Len: bits.Count(both)}
			}
			if got, ok := span.Meet(a, b); got != want || ok != (both != 0) {
				t.Fatalf("Meet(%v, %v): %v, %v, want %v", a, b, got, ok, want)
			}
		}
	}
}

// What is in two rows begins with the first sector of one of them, so that no other one need be asked for.
func TestP4_2SpansOfAnySize(t *testing.T) {
	for _, a := range sample.Spans() {
		for _, b := range sample.Spans() {
			want := sample.InSpan(a, a.Off) && sample.InSpan(b, a.Off) || sample.InSpan(a, b.Off) && sample.InSpan(b, b.Off)
			if got := span.Overlap(a, b); got != want {
				t.Fatalf("Overlap(%v, %v): %v", a, b, got)
			}
			within := b.Len > 0 && sample.InSpan(a, b.Off) && sample.InSpan(a, b.Off+b.Len-1)
			if got := span.Holds(a, b); got != within {
				t.Fatalf("Holds(%v, %v): %v", a, b, got)
			}
			got, ok := span.Meet(a, b)
			if ok != want || !ok && got != (api.Span{}) {
				t.Fatalf("Meet(%v, %v): %v, %v", a, b, got, ok)
			}
			if ok && !justBoth(a, b, got) {
				t.Fatalf("Meet(%v, %v): %v: not just the sectors in both", a, b, got)
			}
		}
	}
}

// justBoth: are the first and the last sector of s in both spans, and those beside them not?
func justBoth(a, b, s api.Span) bool {
	both := func(n int) bool { return sample.InSpan(a, n) && sample.InSpan(b, n) }
	end := s.Off + s.Len
	return s.Len > 0 && both(s.Off) && both(end-1) && !both(s.Off-1) && !both(end)
}

func TestP4_3Extents(t *testing.T) {
	for _, c := range []struct {
		s    api.Span
		want uint64
	}{
		{api.Span{Off: 3, Len: 2}, 3}, // the chapter's: 0 and 1
		{api.Span{}, 0},
		{api.Span{Off: 0, Len: 1}, 1},
		{api.Span{Off: 3, Len: 1}, 1},
		{api.Span{Off: 0, Len: 4}, 1},
		{api.Span{Off: 0, Len: 5}, 3},
		{api.Span{Off: 4, Len: 1}, 2},
		{api.Span{Off: 4, Len: 4}, 2},
		{api.Span{Off: 4, Len: 5}, 6},
		{api.Span{Off: 3, Len: 5}, 3},
		{api.Span{Off: 3, Len: 6}, 7},
		{api.Span{Off: 5}, 0},
		{api.Span{Off: 8}, 0},
		{api.Span{Off: 251, Len: 1}, 1 << 62},
		{api.Span{Off: 251, Len: 2}, 3 << 62},
		{api.Span{Off: 252, Len: 4}, 1 << 63},
		{api.Span{Off: 255, Len: 1}, 1 << 63},
		{api.Span{Off: 255, Len: 2}, 1 << 63},
		{api.Span{Off: 255}, 0},
		{api.Span{Off: 256, Len: 1}, 0},
		{api.Span{Off: 256, Len: 8}, 0},
		{api.Span{Off: 0, Len: 252}, math.MaxUint64 >> 1},
		{api.Span{Off: 0, Len: 253}, math.MaxUint64},
		{api.Span{Off: 0, Len: 256}, math.MaxUint64},
		{api.Span{Off: 0, Len: 257}, math.MaxUint64},
		{api.Span{Off: 4, Len: 300}, math.MaxUint64 - 1},
		{api.Span{Off: 0, Len: most}, math.MaxUint64},
		{api.Span{Off: 252, Len: most}, 1 << 63},
		{api.Span{Off: most, Len: most}, 0},
		{api.Span{Off: most, Len: 1}, 0},
		{api.Span{Off: most}, 0},
	} {
		if got := span.Extents(c.s); got != c.want {
			t.Errorf("Extents(%v): %#x, want %#x", c.s, got, c.want)
		}
	}
}

// extents: those of which the span has a sector, each sector of each extent asked for.
func extents(s api.Span) uint64 {
	var set uint64
	for n := range 256 {
		if sample.InSpan(s, n) {
			set = bits.With(set, n/4)
		}
	}
	return set
}

func TestP4_3ExtentsSectorBySector(t *testing.T) {
	list := sample.Spans()
	for off := range 270 {
		for _, n := range []int{0, 1, 2, 3, 4, 5, 6, 7, 8, 9, 16, 17} {
			list = append(list, api.Span{Off: off, Len: n})
		}
	}
	for _, s := range list {
		if got, want := span.Extents(s), extents(s); got != want {
			t.Fatalf("Extents(%v): %#x, want %#x", s, got, want)
		}
	}
}

func TestP4_3Whole(t *testing.T) {
	for e := range 64 {
		want := api.Span{Off: e + e + e + e, Len: 4}
		if got := span.Whole(e); got != want {
			t.Errorf("Whole(%d): %v, want %v", e, got, want)
		}
		if got := span.Extents(span.Whole(e)); got != bits.One(e) {
			t.Errorf("the extents of Whole(%d): %#x", e, got)
		}
	}
	if got := span.Whole(63); got != (api.Span{Off: 252, Len: 4}) {
		t.Errorf("Whole(63): %v", got)
	}
}

func TestP4_3WholeOfNoExtent(t *testing.T) {
	for _, e := range []int{math.MinInt, math.MinInt + 1, math.MinInt32, -most - 1, -most, -256, -4, -2, -1, 64, 65, 127, 128, 255, 256, most + 1, most + 2, 2 * most, math.MaxInt32, 1 << 32, 1<<32 + 1, 1 << 61, 1 << 62, 1<<62 + 1, math.MaxInt - 1, math.MaxInt} {
		if got := span.Whole(e); got != (api.Span{}) {
			t.Errorf("Whole(%d): %v, want the zero span", e, got)
		}
	}
}

func TestP4_4TwoOverlapJustIfTheirMeetingHasASector(t *testing.T) {
	list := append(sample.Spans(), sample.NoSpans()...)
	for _, a := range list {
		for _, b := range list {
			both, _ := span.Meet(a, b)
			if got := span.Overlap(a, b); got != (both.Len > 0) {
				t.Fatalf("Overlap(%v, %v): %v, and they meet in %v", a, b, got, both)
			}
			if got := span.Overlap(b, a); got != (both.Len > 0) {
				t.Fatalf("Overlap(%v, %v): %v, and they meet in %v", b, a, got, both)
			}
		}
	}
}
