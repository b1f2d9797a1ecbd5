package request_test

import (
	"bytes"
	"math"
	"slices"
	"testing"

	"twain/api"
	"twain/request"
	"twain/sample"
)

// holds: does Check answer just that?
func holds(t *testing.T, c api.Config, r api.Request, want api.Errno) {
	t.Helper()
	if got := request.Check(c, r); got != want {
		t.Errorf("Check(%+v, kind %d, %+v, %d bytes): %v, want %v", c, r.Kind, r.Span, len(r.Data), got, want)
	}
}

func TestP28_2Example(t *testing.T) {
	holds(t, of(16), write(0, 2, 32), api.OK)
	holds(t, of(16), write(0, 2, 31), api.ErrInvalid)
}

// At the area's beginning, within it and at its end, of one sector, of some and of as many as may be.
func TestP28_2ThatMayBe(t *testing.T) {
	for _, sectors := range []int{16, 64, 256} {
		for _, n := range []int{1, 2, 5, 8} {
			for _, off := range []int{0, 1, 3, sectors/2 - n, sectors - n - 1, sectors - n} {
				holds(t, of(sectors), sample.Read(off, n), api.OK)
				holds(t, of(sectors), write(off, n, 16*n), api.OK)
			}
		}
		holds(t, of(sectors), sample.Flush(), api.OK)
	}
}

func TestP28_2NoKind(t *testing.T) {
	for _, kind := range sample.NoKinds() {
		for _, r := range []api.Request{{}, sample.Read(0, 1), write(0, 1, 16), sample.Flush(), sample.Read(-1, 1), write(0, 9, 1)} {
			r.Kind = kind
			holds(t, of(16), r, api.ErrInvalid)
		}
	}
}

// spans that a read and a write of 16 sectors may not have.
func wrongSpans() []api.Span {
	return []api.Span{
		{Off: 0, Len: 0}, {Off: 5, Len: 0}, {Off: 16, Len: 0},
		{Off: 0, Len: 9}, {Off: 7, Len: 9}, {Off: 0, Len: 16}, {Off: 0, Len: 17},
		{Off: 0, Len: -1}, {Off: 8, Len: -8}, {Off: 15, Len: -1},
		{Off: -1, Len: 1}, {Off: -1, Len: 2}, {Off: -8, Len: 8}, {Off: -4, Len: 8},
		{Off: 15, Len: 2}, {Off: 9, Len: 8}, {Off: 16, Len: 1}, {Off: 16, Len: 8}, {Off: 17, Len: 1}, {Off: 256, Len: 1},
		{Off: math.MaxInt, Len: 1}, {Off: math.MaxInt, Len: 8}, {Off: math.MaxInt - 7, Len: 8}, {Off: math.MinInt, Len: 1}, {Off: math.MinInt, Len: 8},
		{Off: 0, Len: math.MaxInt}, {Off: 1, Len: math.MaxInt}, {Off: 0, Len: math.MinInt}, {Off: 1, Len: math.MinInt}, {Off: -1, Len: math.MinInt},
		{Off: math.MaxInt, Len: math.MaxInt}, {Off: math.MinInt, Len: math.MinInt}, {Off: math.MinInt, Len: math.MaxInt}, {Off: math.MaxInt, Len: math.MinInt},
		{Off: 0, Len: 1<<32 + 1}, {Off: 1 << 32, Len: 1}, {Off: 0, Len: 1 << 60}, {Off: 0, Len: 1<<60 + 1}, {Off: 0, Len: 1 << 62},
	}
}

// A write has its span's bytes here as far as that many can be, also as a product that wraps tells them: only the span is wrong.
func TestP28_2WrongSpans(t *testing.T) {
	for _, s := range wrongSpans() {
		holds(t, of(16), api.Request{Kind: api.Read, Span: s}, api.ErrInvalid)
		holds(t, of(16), api.Request{Kind: api.Write, Span: s}, api.ErrInvalid)
		if size := s.Len * 16; size >= 0 && size <= 4096 {
			holds(t, of(16), write(s.Off, s.Len, size), api.ErrInvalid)
		}
		holds(t, of(16), write(s.Off, s.Len, 16), api.ErrInvalid)
	}
}

// At the last sector, and to the end: it may be; one sector beyond: not.
func TestP28_2AtTheEnd(t *testing.T) {
	for _, sectors := range []int{4, 8, 12, 16, 252, 256} {
		for n := 1; n <= min(8, sectors); n++ {
			for _, kind := range []func(off, n int) api.Request{sample.Read, func(off, n int) api.Request { return write(off, n, 16*n) }} {
				holds(t, of(sectors), kind(sectors-n, n), api.OK)
				holds(t, of(sectors), kind(sectors-n+1, n), api.ErrInvalid)
				holds(t, of(sectors), kind(sectors, n), api.ErrInvalid)
			}
		}
	}
}

// A small area: a span of more sectors than there are, though no more than a request may have.
func TestP28_2LongerThanTheArea(t *testing.T) {
	for n := 5; n <= 8; n++ {
		holds(t, of(4), sample.Read(0, n), api.ErrInvalid)
		holds(t, of(4), write(0, n, 16*n), api.ErrInvalid)
	}
}

func TestP28_2ReadWithData(t *testing.T) {
	for _, size := range []int{1, 15, 16, 17, 32} {
		r := sample.Read(3, 1)
		r.Data = sample.Bytes(size)
		holds(t, of(16), r, api.ErrInvalid)
	}
	noughts := sample.Read(3, 1)
	noughts.Data = make([]byte, 1)
	holds(t, of(16), noughts, api.ErrInvalid)
}

func TestP28_2WriteOfOtherBytes(t *testing.T) {
	for n := 1; n <= 8; n++ {
		for size := 0; size <= 16*10; size++ {
			want := api.ErrInvalid
			if size == 16*n {
				want = api.OK
			}
			holds(t, of(16), write(4, n, size), want)
		}
	}
}

// What the bytes are is not asked, only how many.
func TestP28_2WriteOfAnyBytes(t *testing.T) {
	for _, x := range []byte{0, 1, 127, 128, 255} {
		r := write(4, 3, 48)
		r.Data = bytes.Repeat([]byte{x}, 48)
		holds(t, of(16), r, api.OK)
	}
}

// The room behind the data's end does not count.
func TestP28_2WriteWithRoomBehindIt(t *testing.T) {
	r := write(4, 2, 48)
	r.Data = r.Data[:32]
	holds(t, of(16), r, api.OK)
	r.Data = r.Data[:31]
	holds(t, of(16), r, api.ErrInvalid)
	r.Kind, r.Data = api.Read, r.Data[:0]
	holds(t, of(16), r, api.OK)
}

func TestP28_2FlushWithASpanOrData(t *testing.T) {
	for _, s := range []api.Span{{Off: 1}, {Off: -1}, {Off: 16}, {Off: math.MaxInt}, {Off: math.MinInt}, {Len: 1}, {Len: -1}, {Len: 16}, {Len: math.MaxInt}, {Len: math.MinInt}, {Off: 1, Len: 1}, {Off: 1, Len: -1}, {Off: -1, Len: 1}} {
		r := sample.Flush()
		r.Span = s
		holds(t, of(16), r, api.ErrInvalid)
	}
	for _, size := range []int{1, 16, 32} {
		r := sample.Flush()
		r.Data = sample.Bytes(size)
		holds(t, of(16), r, api.ErrInvalid)
	}
}

// nil and empty Data are the same, of each kind, with a span that may be and with none.
func TestR3NilAndEmptyData(t *testing.T) {
	for _, kind := range allKinds() {
		for _, s := range []api.Span{{}, {Off: 3, Len: 2}, {Off: 3}, {Len: 2}} {
			none := api.Request{Kind: kind, Span: s}
			empty := api.Request{Kind: kind, Span: s, Data: []byte{}}
			cut := api.Request{Kind: kind, Span: s, Data: sample.Bytes(32)[:0]}
			for _, r := range []api.Request{none, empty, cut} {
				holds(t, of(16), r, want(16, r))
			}
		}
	}
}

// Of the settings only Sectors are looked at, whether the others may be or not.
func TestP28_2OtherSettingsThatMayNotBe(t *testing.T) {
	requests := []api.Request{sample.Read(15, 1), write(8, 8, 128), sample.Flush(), sample.Read(16, 1), write(8, 8, 127), {Kind: 3}}
	for _, s := range settings()[1:] {
		for _, n := range slices.Concat([]int{0, s.least - 1, s.most + 1}, sample.Ends()) {
			for _, r := range requests {
				holds(t, s.with(of(16), n), r, want(16, r))
			}
		}
	}
	for _, r := range requests {
		holds(t, api.Config{Sectors: 16}, r, want(16, r))
	}
}

// Of no sectors, and of fewer than none, only a flush may be.
func TestP28_2OfNoSectors(t *testing.T) {
	for _, sectors := range []int{0, -1, -8, -256, math.MinInt32, math.MinInt + 1, math.MinInt} {
		for _, s := range []api.Span{{}, {Len: 1}, {Off: -1, Len: 1}, {Off: sectors, Len: 1}, {Off: -8, Len: 8}, {Off: sectors, Len: 8}} {
			holds(t, of(sectors), api.Request{Kind: api.Read, Span: s}, api.ErrInvalid)
			holds(t, of(sectors), write(s.Off, s.Len, 16*s.Len), api.ErrInvalid)
		}
		holds(t, of(sectors), sample.Flush(), api.OK)
	}
}

// Of more sectors than there can be: what chapter 4 calls Good of so many, and no other.
func TestP28_2OfVeryManySectors(t *testing.T) {
	const most = sample.MostSectors
	for _, sectors := range []int{math.MaxInt, math.MaxInt - 1, most + 8} {
		for _, off := range []int{0, 256, 1000, most - 8, most - 1, most} {
			holds(t, of(sectors), sample.Read(off, 8), api.OK)
			holds(t, of(sectors), write(off, 8, 128), api.OK)
			holds(t, of(sectors), sample.Read(off, 9), api.ErrInvalid)
		}
		for _, off := range []int{most + 1, math.MaxInt32, math.MaxInt - 8, math.MaxInt} {
			holds(t, of(sectors), sample.Read(off, 1), api.ErrInvalid)
			holds(t, of(sectors), write(off, 1, 16), api.ErrInvalid)
		}
	}
	holds(t, of(most+7), sample.Read(most, 8), api.ErrInvalid)
}

// Sectors that are no multiple of an extent: the last ones are there.
func TestP28_2OfSectorsThatAreNoMultiple(t *testing.T) {
	for _, sectors := range []int{1, 2, 3, 5, 6, 7, 9, 257} {
		holds(t, of(sectors), sample.Read(sectors-1, 1), api.OK)
		holds(t, of(sectors), sample.Read(sectors, 1), api.ErrInvalid)
	}
}

// All of it crossed: each kind with spans of all sorts, and Data of all sizes.
func TestP28_2AgainstPlainWords(t *testing.T) {
	spans := slices.Concat(sample.SmallSpans(11), sample.Spans(), sample.NoSpans(), wrongSpans())
	lists := datas()
	ok := 0
	for _, sectors := range []int{math.MinInt, -1, 0, 3, 4, 8, 16, 256, math.MaxInt} {
		c := of(sectors)
		for _, kind := range append(sample.Kinds(), -1, 3) {
			for _, s := range spans {
				for _, list := range lists {
					r := api.Request{Kind: kind, Span: s, Data: list}
					w := want(sectors, r)
					if got := request.Check(c, r); got != w {
						t.Fatalf("Check(%+v, kind %d, %+v, %d bytes): %v, want %v", c, kind, s, len(list), got, w)
					}
					if w == api.OK {
						ok++
					}
				}
			}
		}
	}
	if ok < 1000 {
		t.Errorf("only %d may be: too few were tried", ok)
	}
}

// extents: of how many extents the span has a sector, sector by sector. The first hundred sectors are enough to find too many.
func extents(s api.Span) int {
	found := map[int]int{}
	for i := range min(s.Len, 100) {
		found[(s.Off+i)/4]++
	}
	return len(found)
}

// Over all Offs and Lens of areas of several sizes, and around them.
func TestP28_3AtMostThreeExtents(t *testing.T) {
	most := 0
	for _, sectors := range []int{4, 8, 12, 16, 20, 64, 100, 252, 256} {
		for off := -3; off <= sectors+3; off++ {
			for n := -2; n <= 12; n++ {
				for _, r := range []api.Request{sample.Read(off, n), write(off, n, 16*max(n, 0))} {
					if request.Check(of(sectors), r) != api.OK {
						continue
					}
					has := extents(r.Span)
					if has > 3 {
						t.Errorf("%+v of %d sectors may be, and has %d extents", r.Span, sectors, has)
					}
					most = max(most, has)
				}
			}
		}
	}
	if most != 3 {
		t.Errorf("the most are %d extents: too few requests were tried, or may be", most)
	}
}

// So does what stands ahead of the greatest Off, in an area of any size; a flush has none.
func TestP28_3OfAnySize(t *testing.T) {
	for _, sectors := range []int{0, 1, 7, 257, 1024, sample.MostSectors, math.MaxInt} {
		for _, s := range slices.Concat(sample.Spans(), sample.NoSpans(), wrongSpans()) {
			for _, r := range []api.Request{{Kind: api.Read, Span: s}, write(s.Off, s.Len, 16*min(max(s.Len, 0), 20)), {Kind: api.Flush, Span: s}} {
				if request.Check(of(sectors), r) == api.OK && extents(r.Span) > 3 {
					t.Errorf("%+v of %d sectors may be, and has %d extents", s, sectors, extents(r.Span))
				}
			}
		}
	}
}
