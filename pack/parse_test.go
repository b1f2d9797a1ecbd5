package pack_test

import (
	"bytes"
	"math"
	"slices"
	"testing"

	"twain/api"
	"twain/pack"
	"twain/sample"
)

// Of each number of bytes that are cut off at the end it is too few, as far as numbers are cut; then Data that may not be, up to a sector fewer.
func TestP17_2ParseOfBytesCutOff(t *testing.T) {
	for _, c := range examples() {
		for have := range len(c.b) {
			want := api.ErrBad
			switch {
			case have < headSize(c.b[0]):
				want = api.ErrShort
			case c.m.Kind == pack.Data && have > 11 && (have-11)%16 == 0:
				want = api.OK // a write of fewer sectors
			}
			if e := read(t, c.b[:have]); e != want {
				t.Errorf("Parse(%v), cut from %d bytes: %v, want %v", c.b[:have], len(c.b), e, want)
			}
		}
	}
	for _, m := range sample.Messages() {
		b := bytesOf(m)
		for have := range b {
			read(t, b[:have])
		}
	}
}

// A Kind's numbers are there whole, or it is too short, whatever the bytes say; and what lies in the room behind their end does not count.
func TestP17_2ParseOfFewerThanTheNumbersNeed(t *testing.T) {
	refused(t, nil, api.ErrShort)
	refused(t, []byte{}, api.ErrShort)
	refused(t, make([]byte, 0, 20), api.ErrShort)
	for kind, size := range map[byte]int{1: 10, 2: 11, 3: 9, 4: 9, 5: 9, 6: 3, 7: 3, 8: 1} {
		for _, fill := range []byte{0, 1, 5, 255} {
			room := bytes.Repeat([]byte{fill}, 300)
			room[0] = kind
			for have := range size {
				refused(t, room[:have], api.ErrShort)
			}
			if _, e := pack.Parse(room[:size]); e == api.ErrShort {
				t.Errorf("Parse(%v): %v", room[:size], e)
			}
		}
	}
}

func TestP17_2ParseOfBytesMore(t *testing.T) {
	for _, c := range examples() {
		for _, more := range []byte{0, 1, 8, 255} {
			refused(t, append(bytes.Clone(c.b), more), api.ErrBad)
		}
		refused(t, append(bytes.Clone(c.b), c.b...)[:min(2*len(c.b), api.MaxBody)], api.ErrBad)
	}
	for _, m := range sample.Messages() {
		refused(t, append(bytesOf(m), 0), api.ErrBad)
	}
	// A whole sector more is a write of more sectors, up to the most of them.
	one := slices.Concat([]byte{2, 0, 0, 0, 0, 0, 0, 0, 1, 0, 0}, make([]byte, 7*16))
	if e := read(t, append(one, make([]byte, 16)...)); e != api.OK {
		t.Errorf("a Data of eight sectors: %v", e)
	}
	refused(t, append(one, make([]byte, 32)...), api.ErrBad)
}

// Of more than MaxBody bytes it is too much, whatever they say; of just so many it is none, since no message has so many.
func TestP17_2ParseOfManyBytes(t *testing.T) {
	for first := range 256 {
		for _, fill := range []byte{0, 1, 255} {
			row := bytes.Repeat([]byte{fill}, 1000)
			row[0] = byte(first)
			refused(t, row[:api.MaxBody-1], api.ErrBad)
			refused(t, row[:api.MaxBody], api.ErrBad)
			refused(t, row[:api.MaxBody+1], api.ErrLong)
			refused(t, row, api.ErrLong)
		}
	}
	for _, m := range sample.Messages() {
		b := append(bytesOf(m), make([]byte, api.MaxBody+1)...)
		refused(t, b[:api.MaxBody], api.ErrBad)
		refused(t, b[:api.MaxBody+1], api.ErrLong)
	}
	refused(t, make([]byte, 1<<20), api.ErrLong)
}

// A first byte that is no kind has no numbers, so none can be cut off: it is none, of whatever length.
func TestP17_2ParseOfNoKind(t *testing.T) {
	for first := range 256 {
		if first >= 1 && first <= 8 {
			continue
		}
		for _, size := range []int{1, 2, 3, 8, 9, 10, 11, 27, 67, 139, 199, 200} {
			b := sample.Bytes(size)
			b[0] = byte(first)
			refused(t, b, api.ErrBad)
		}
		for _, m := range sample.Messages()[:60] {
			b := bytesOf(m)
			b[0] = byte(first)
			refused(t, b, api.ErrBad)
		}
	}
}

func TestP17_2ParseOfAnotherWas(t *testing.T) {
	for was := range 256 {
		b := []byte{1, byte(was), 1, 2, 3, 4, 5, 6, 7, 8}
		if was > 1 {
			refused(t, b, api.ErrBad)
			refused(t, b[:9], api.ErrShort)
			refused(t, append(b, 0), api.ErrBad)
			continue
		}
		want := api.Message{Kind: pack.Greet, Was: was == 1, Mask: 0x0102030405060708}
		if got, e := pack.Parse(b); !sample.AlikeMessages(got, want) || e != api.OK {
			t.Errorf("Parse(%v): %+v, %v, want %+v", b, got, e, want)
		}
	}
}

// Ids that may not be: 0, and all of 2^56 and above, the highest bit among them.
func TestP17_2ParseOfAnIdThatMayNotBe(t *testing.T) {
	wrong := []uint64{0, 1 << 56, 1<<56 + 5, 1 << 57, 1 << 62, 1<<63 - 1, 1 << 63, 1<<63 + 5, math.MaxUint64 - 1, math.MaxUint64}
	for _, w := range sample.Words() {
		if w >= 1<<56 {
			wrong = append(wrong, w)
		}
	}
	for _, id := range wrong {
		for _, kind := range []byte{3, 4, 5} {
			b := append([]byte{kind}, sample.HighestFirst(id, 8)...)
			refused(t, b, api.ErrBad)
			refused(t, b[:8], api.ErrShort)
			refused(t, append(b, 0), api.ErrBad)
		}
		b := slices.Concat([]byte{2}, sample.HighestFirst(id, 8), []byte{0, 0}, make([]byte, 16))
		refused(t, b, api.ErrBad)
		refused(t, b[:11], api.ErrBad)
		refused(t, b[:10], api.ErrShort)
	}
}

// All Offs that two bytes can tell.
func TestP17_2ParseOfEachOff(t *testing.T) {
	sector, extent := make([]byte, 16), make([]byte, 64)
	for off := range 1 << 16 {
		two := []byte{byte(off / 256), byte(off % 256)}
		for _, c := range []struct {
			b    []byte
			want api.Message
			ok   bool
		}{
			{slices.Concat([]byte{2, 0, 0, 0, 0, 0, 0, 0, 1}, two, sector), api.Message{Kind: pack.Data, Id: 1, Off: off, Data: sector}, off < 256},
			{slices.Concat([]byte{6}, two, extent), api.Message{Kind: pack.Ext, Off: off, Data: extent}, off < 64},
			{append([]byte{7}, two...), api.Message{Kind: pack.Have, Off: off}, off < 64},
		} {
			if !c.ok {
				refused(t, c.b, api.ErrBad)
			} else if got, e := pack.Parse(c.b); !sample.AlikeMessages(got, c.want) || e != api.OK {
				t.Fatalf("Parse(%v): %+v, %v, want %+v", c.b, got, e, c.want)
			}
		}
	}
}

// All lengths of Data, up to what is too much.
func TestP17_2ParseOfEachLengthOfData(t *testing.T) {
	for size := range 300 {
		for _, c := range []struct {
			head []byte
			ok   bool
		}{
			{[]byte{2, 0, 0, 0, 0, 0, 0, 0, 1, 0, 3}, size%16 == 0 && size >= 16 && size <= 128},
			{[]byte{6, 0, 3}, size == 64},
			{[]byte{7, 0, 3}, size == 0},
			{[]byte{8}, size == 0},
			{[]byte{3, 0, 0, 0, 0, 0, 0, 0, 1}, size == 0},
			{[]byte{4, 0, 0, 0, 0, 0, 0, 0, 1}, size == 0},
			{[]byte{5, 0, 0, 0, 0, 0, 0, 0, 1}, size == 0},
			{[]byte{1, 0, 0, 0, 0, 0, 0, 0, 0, 0}, size == 0},
		} {
			want := api.ErrBad
			if c.ok {
				want = api.OK
			} else if len(c.head)+size > 200 {
				want = api.ErrLong
			}
			b := append(c.head, sample.Bytes(size)...)
			if e := read(t, b); e != want {
				t.Fatalf("Parse(%v), of %d bytes: %v, want %v", b, len(b), e, want)
			}
		}
	}
}

// Where two errors would fit: too long ahead of too short and of what is none, too short ahead of what is none.
func TestP17_2TheOrderOfErrors(t *testing.T) {
	for _, c := range []struct {
		what string
		b    []byte
		want api.Errno
	}{
		{"too long, and no kind", append([]byte{9}, make([]byte, 200)...), api.ErrLong},
		{"too long, and another Was", append([]byte{1, 2}, make([]byte, 199)...), api.ErrLong},
		{"too long, and an Id of 0", append([]byte{3}, make([]byte, 200)...), api.ErrLong},
		{"too long, and more than it has", append([]byte{8}, make([]byte, 200)...), api.ErrLong},
		{"just not too long, and more than it has", append([]byte{8}, make([]byte, 199)...), api.ErrBad},
		{"too short, and another Was", []byte{1, 2, 0, 0, 0, 0, 0, 0, 0}, api.ErrShort},
		{"too short, and a great Id", []byte{3, 255, 255, 255}, api.ErrShort},
		{"too short, and an Id of 0", []byte{2, 0, 0, 0, 0, 0, 0, 0, 0, 0}, api.ErrShort},
		{"too short, and a great Off", []byte{7, 255}, api.ErrShort},
		{"too short, and a great Off of an Ext", []byte{6, 255}, api.ErrShort},
		{"just not too short, without Data", []byte{6, 0, 0}, api.ErrBad},
		{"just not too short, and a great Off", []byte{7, 255, 255}, api.ErrBad},
		{"no kind, of one byte", []byte{0}, api.ErrBad},
		{"no kind, of few bytes", []byte{255, 0}, api.ErrBad},
	} {
		if got, e := pack.Parse(c.b); e != c.want || !sample.AlikeMessages(got, api.Message{}) {
			t.Errorf("%s: %+v, %v, want %v", c.what, got, e, c.want)
		}
	}
}
