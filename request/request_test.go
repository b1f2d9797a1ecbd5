package request_test

import (
	"bytes"
	"fmt"
	"math"
	"slices"
	"testing"

	"twain/api"
	"twain/request"
	"twain/sample"
)

// sames: does Same answer that, whichever of both comes first?
func sames(t *testing.T, a, b api.Request, want bool) {
	t.Helper()
	if got := request.Same(a, b); got != want {
		t.Errorf("Same(%+v, %+v): %v, want %v", a, b, got, want)
	}
	if got := request.Same(b, a); got != want {
		t.Errorf("Same(%+v, %+v): %v, want %v", b, a, got, want)
	}
}

// copied: the request, with data of its own.
func copied(r api.Request) api.Request {
	r.Data = bytes.Clone(r.Data)
	return r
}

// some: requests that may be, and that may not; no two are alike.
func some() []api.Request {
	return []api.Request{
		sample.Flush(),
		sample.Read(0, 1),
		sample.Read(3, 2),
		sample.Read(2, 3),
		write(3, 2, 32),
		write(2, 3, 48),
		write(3, 2, 31),
		write(3, 2, 33),
		write(3, 2, 0),
		{Kind: api.Read, Span: api.Span{Off: 3, Len: 2}, Data: sample.Bytes(32)},
		{Kind: api.Flush, Span: api.Span{Off: 3, Len: 2}},
		{Kind: api.Flush, Data: []byte{0}},
		{Kind: -1},
		{Kind: math.MinInt, Span: api.Span{Off: math.MinInt, Len: math.MaxInt}, Data: []byte{1}},
		{Kind: math.MaxInt, Span: api.Span{Off: math.MaxInt, Len: math.MinInt}, Data: []byte{1}},
	}
}

func TestP28_2Same(t *testing.T) {
	for i, a := range some() {
		for j, b := range some() {
			sames(t, a, copied(b), i == j)
		}
	}
}

// Two requests that differ in one thing alone.
func TestP28_2SameButForOneThing(t *testing.T) {
	for _, r := range some() {
		for _, other := range slices.Concat(sample.Ends(), sample.Kinds(), []int{-1, 3, 4, 9}) {
			kind, off, n := copied(r), copied(r), copied(r)
			kind.Kind, off.Span.Off, n.Span.Len = other, other, other
			sames(t, r, kind, r.Kind == other)
			sames(t, r, off, r.Span.Off == other)
			sames(t, r, n, r.Span.Len == other)
		}
	}
}

// Each byte, and each of its bits, counts; so does the length, at both ends.
func TestP28_2SameByteByByte(t *testing.T) {
	r := write(3, 2, 32)
	for place := range r.Data {
		for bit := range 8 {
			other := copied(r)
			other.Data[place] ^= 1 << bit
			sames(t, r, other, false)
		}
	}
	for size := range len(r.Data) {
		begin, end := r, r
		begin.Data, end.Data = r.Data[:size], r.Data[len(r.Data)-size:]
		sames(t, r, begin, false)
		sames(t, r, end, false)
	}
	longer := r
	longer.Data = append(bytes.Clone(r.Data), 0)
	sames(t, r, longer, false)
}

// Bytes that stand in another order are others.
func TestP28_2SameBytesInAnotherOrder(t *testing.T) {
	a, b := write(3, 2, 32), write(3, 2, 32)
	slices.Reverse(b.Data)
	sames(t, a, b, false)
}

// What lies behind the end does not count, nor whether the memory is the same.
func TestP28_2SameWithRoomBehindIt(t *testing.T) {
	a, b := write(3, 2, 32), write(3, 2, 32)
	a.Data, _ = sample.WithRoom(a.Data, 1, 5)
	b.Data, _ = sample.WithRoom(b.Data, 2, 9)
	sames(t, a, b, true)
	sames(t, a, a, true)
}

func TestR3SameOfNilAndEmptyData(t *testing.T) {
	for _, kind := range allKinds() {
		none := api.Request{Kind: kind, Span: api.Span{Off: 1, Len: 2}}
		empty, cut, nought := none, none, none
		empty.Data, cut.Data, nought.Data = []byte{}, sample.Bytes(32)[:0], []byte{0}
		sames(t, none, empty, true)
		sames(t, none, cut, true)
		sames(t, empty, cut, true)
		sames(t, none, nought, false)
		sames(t, empty, nought, false)
	}
}

func TestP28_2Name(t *testing.T) {
	for kind, want := range []string{"read", "write", "flush"} {
		if got := request.Name(kind); got != want {
			t.Errorf("Name(%d): %q, want %q", kind, got, want)
		}
	}
	for _, kind := range sample.NoKinds() {
		if got := request.Name(kind); got != "unknown" {
			t.Errorf("Name(%d): %q", kind, got)
		}
	}
}

// The data, and the room behind them, are as they were, whatever was asked.
func TestR3NothingIsChanged(t *testing.T) {
	for _, r := range some() {
		for _, other := range some() {
			list, memory := sample.WithRoom(r.Data, 99, 7)
			was := bytes.Clone(memory)
			mine := api.Request{Kind: r.Kind, Span: r.Span, Data: list}
			request.Check(of(16), mine)
			request.Same(mine, other)
			request.Same(other, mine)
			if !bytes.Equal(memory, was) {
				t.Errorf("%+v: the data became %v", r, memory)
			}
		}
	}
}

// What is asked again is answered the same, whatever was asked in between, and whatever became of the data.
func TestR4AskedAgain(t *testing.T) {
	ask := func() string {
		var all []any
		for _, r := range some() {
			all = append(all, request.Check(of(16), r), request.Name(r.Kind), request.Same(r, sample.Flush()))
			sample.Spoil(r.Data)
		}
		for _, c := range sample.Settings() {
			all = append(all, request.Good(c))
		}
		return fmt.Sprint(all)
	}
	if first, second := ask(), ask(); first != second {
		t.Errorf("asked twice: %s, then %s", first, second)
	}
}

// With each number at both ends of an int, alone and together, in the settings and in the request.
func TestR1NoCallPanics(t *testing.T) {
	ends := []int{math.MinInt, math.MinInt + 1, -1, 0, 1, math.MaxInt - 1, math.MaxInt}
	for _, n := range ends {
		request.Name(n)
		if request.Good(api.Config{Sectors: n, Hot: n, Table: n, Window: n, Patience: n}) {
			t.Errorf("Good of five times %d: true", n)
		}
		for _, s := range sample.CrossedSpans(ends, ends) {
			for _, kind := range slices.Concat(ends, sample.Kinds()) {
				for _, list := range [][]byte{nil, {}, make([]byte, 1), make([]byte, 16)} {
					r := api.Request{Kind: kind, Span: s, Data: list}
					holds(t, api.Config{Sectors: n}, r, want(n, r))
					sames(t, r, copied(r), true)
				}
			}
		}
	}
}
