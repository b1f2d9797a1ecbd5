package wire_test

import (
	"bytes"
	"math"
	"slices"
	"testing"

	"twain/api"
	"twain/sample"
	"twain/wire"
)

// Too few bytes, whatever they say, also with a length and a sum that fit; and what lies in the room behind their end does not count.
func TestP18_2ParseOfFewerThan23Bytes(t *testing.T) {
	refused(t, nil, api.ErrShort)
	refused(t, []byte{}, api.ErrShort)
	for have := range 23 {
		for _, fill := range []byte{0, 1, 255} {
			refused(t, bytes.Repeat([]byte{fill}, have), api.ErrShort)
		}
		refused(t, make([]byte, 300)[:have], api.ErrShort)
		for _, c := range examples() {
			refused(t, c.b[:have], api.ErrShort)
		}
		if have >= 6 {
			short := make([]byte, have-4)
			short[1] = byte(have)
			refused(t, sealed(short), api.ErrShort)
		}
	}
}

// Of just 23 and MaxBody bytes it may be a packet; of more it is too much, whatever they say, also with a length and a sum that fit.
func TestP18_2ParseOfMoreThan23AndMaxBodyBytes(t *testing.T) {
	p := msg()
	for size := 190; size < 400; size++ {
		p.Body = sample.Bytes(size)
		want := api.OK
		if size > api.MaxBody {
			want = api.ErrLong
		}
		if e := read(t, bytesOf(p)); e != want {
			t.Errorf("Parse of a Msg with a Body of %d bytes: %v, want %v", size, e, want)
		}
	}
	for _, size := range []int{224, 225, 1000, 1 << 16, 1<<16 + 24, 1 << 20} {
		for _, fill := range []byte{0, 1, 255} {
			refused(t, bytes.Repeat([]byte{fill}, size), api.ErrLong)
		}
		p.Body = make([]byte, size-23)
		refused(t, bytesOf(p), api.ErrLong)
	}
	for _, c := range examples() {
		refused(t, append(bytes.Clone(c.b), make([]byte, 224-len(c.b))...), api.ErrLong)
	}
}

// Of each kind all lengths of a Body, with a length and a sum that fit.
func TestP18_2ParseOfEachLength(t *testing.T) {
	for size := range 300 {
		for _, p := range []api.Packet{hello(), ping(), msg()} {
			p.Body = sample.Bytes(size)
			want := api.ErrBad
			switch {
			case size > 200:
				want = api.ErrLong
			case p.Kind == wire.Msg && size > 0, p.Kind != wire.Msg && size == 0:
				want = api.OK
			}
			if e := read(t, bytesOf(p)); e != want {
				t.Fatalf("Parse of the bytes of %+v, a Body of %d bytes: %v, want %v", p, size, e, want)
			}
		}
	}
}

// All that the first two bytes can tell: with a sum that fits, and with one that does not.
func TestP18_2ParseOfAnotherLength(t *testing.T) {
	long := msg()
	long.Body = sample.Bytes(200)
	for _, p := range []api.Packet{hello(), ping(), msg(), long} {
		good := bytesOf(p)
		for length := range 1 << 16 {
			if length == len(good) {
				continue
			}
			fits := sealedAs(length, p)
			refused(t, fits, api.ErrBad)
			not := slices.Concat(fits[:2], good[2:])
			refused(t, not, api.ErrBad)
		}
	}
}

// Lengths that count some of the bytes alone, or one too many, and with the lowest byte first.
func TestP18_2ParseOfALengthWithoutSomeOfTheBytes(t *testing.T) {
	for _, p := range few() {
		whole := 23 + len(p.Body)
		for _, length := range []int{0, len(p.Body), 19, 21, 23, 19 + len(p.Body), 21 + len(p.Body), whole - 1, whole + 1, whole + 4, whole * 256, whole + 256, whole + 1<<15} {
			if length != whole {
				refused(t, sealedAs(length, p), api.ErrBad)
			}
		}
	}
}

// All that the last two bytes, and those ahead of them, can tell: one sum alone fits.
func TestP18_2ParseOfAnotherSum(t *testing.T) {
	for _, p := range []api.Packet{hello(), ping(), msg()} {
		good := bytesOf(p)
		end := len(good)
		for turn := uint32(1); turn < 1<<16; turn++ {
			for _, place := range []int{end - 4, end - 3, end - 2} {
				refused(t, sample.Turned(good, place, turn), api.ErrSum)
			}
		}
	}
	for _, p := range few() {
		good := bytesOf(p)
		end := len(good)
		for _, sum := range [][]byte{
			{0, 0, 0, 0},
			{255, 255, 255, 255},
			{good[end-1], good[end-2], good[end-3], good[end-4]}, // the highest byte first
			sealed(good)[end:],              // of the sum, too
			sealed(good[2 : end-4])[end-6:], // without the length
			sealed(good[:19])[19:],          // of the head alone
		} {
			if !bytes.Equal(sum, good[end-4:]) {
				refused(t, slices.Concat(good[:end-4], sum), api.ErrSum)
			}
		}
	}
}

// A byte for Kind that is none, with a sum that fits.
func TestP18_2ParseOfNoKind(t *testing.T) {
	for _, p := range few() {
		for kind := range 256 {
			other := p
			other.Kind = kind
			want := api.ErrBad
			if kind == p.Kind {
				want = api.OK
			}
			if e := read(t, bytesOf(other)); e != want {
				t.Fatalf("Parse of the bytes of %+v: %v, want %v", other, e, want)
			}
		}
	}
}

// Packets that are not good, in bytes whose length and sum fit.
func TestP18_2ParseOfWhatIsNotGood(t *testing.T) {
	great := []int{greatest + 1, greatest + 2, 1<<32 - 2, 1<<32 - 1}
	var list []api.Packet
	for _, p := range []api.Packet{hello(), ping(), msg()} {
		p.From = 0
		list = append(list, p)
	}
	for _, to := range boots()[1:] {
		list = append(list, api.Packet{From: 7, To: to, Kind: wire.Hello})
	}
	for _, n := range append(great, 1, 2, greatest) {
		list = append(list,
			api.Packet{From: 7, Kind: wire.Hello, Seq: n},
			api.Packet{From: 7, Kind: wire.Hello, Ack: n},
			api.Packet{From: 7, To: 8, Kind: wire.Ping, Seq: n, Ack: 9})
	}
	for _, n := range great {
		list = append(list,
			api.Packet{From: 7, To: 8, Kind: wire.Ping, Ack: n},
			api.Packet{From: 7, To: 8, Kind: wire.Msg, Seq: n, Ack: 9, Body: []byte{1}},
			api.Packet{From: 7, To: 8, Kind: wire.Msg, Seq: 10, Ack: n, Body: []byte{1}})
	}
	for _, size := range []int{1, 2, 199, 200} {
		list = append(list,
			api.Packet{From: 7, Kind: wire.Hello, Body: make([]byte, size)},
			api.Packet{From: 7, To: 8, Kind: wire.Ping, Ack: 9, Body: make([]byte, size)})
	}
	list = append(list,
		api.Packet{From: 7, Kind: wire.Ping, Ack: 9},
		api.Packet{From: 7, Kind: wire.Msg, Seq: 10, Ack: 9, Body: []byte{1}},
		api.Packet{From: 7, To: 8, Kind: wire.Msg, Ack: 9, Body: []byte{1}},
		api.Packet{From: 7, To: 8, Kind: wire.Msg, Seq: 10, Ack: 9},
		api.Packet{})
	for _, p := range list {
		refused(t, bytesOf(p), api.ErrBad)
	}
}

// All fields crossed, as far as bytes can tell them, with a length and a sum that fit.
func TestP18_2ParseOfAllCrossed(t *testing.T) {
	someBoots, someCounts := []uint32{0, 1, math.MaxUint32}, []int{0, 1, greatest, greatest + 1, 1<<32 - 1}
	found := map[api.Errno]int{}
	for _, kind := range append(kinds(), 0, 4, 255) {
		for _, p := range crossed(kind, someBoots, someBoots, someCounts, someCounts, []int{0, 1, 200, 201}) {
			found[read(t, bytesOf(p))]++
		}
	}
	for _, e := range []api.Errno{api.OK, api.ErrBad, api.ErrLong} {
		if found[e] < 50 {
			t.Errorf("of all crossed %d are answered with %v", found[e], e)
		}
	}
}

// Where two errors would fit: too short and too long ahead of the length, that ahead of the sum, and the sum ahead of what is not good.
func TestP18_2TheOrderOfErrors(t *testing.T) {
	noSum := func(b []byte) []byte { return sample.Turned(b, len(b)-1, 1) }
	none := api.Packet{Kind: 9}
	long := api.Packet{Kind: 9, Body: make([]byte, 201)}
	most := api.Packet{Kind: 9, Body: make([]byte, 200)}
	for _, c := range []struct {
		what string
		b    []byte
		want api.Errno
	}{
		{"too short, and all else is wrong", make([]byte, 22), api.ErrShort},
		{"too short, and another length", bytesOf(hello())[:22], api.ErrShort},
		{"too short, with the length and the sum of what there is", sealed(append([]byte{0, 22}, make([]byte, 16)...)), api.ErrShort},
		{"too short for a sum", []byte{0, 3, 0}, api.ErrShort},
		{"just not too short, and all else is wrong", make([]byte, 23), api.ErrBad},
		{"too long, and all else is wrong", make([]byte, 224), api.ErrLong},
		{"too long, and not good", bytesOf(long), api.ErrLong},
		{"too long, and no sum", noSum(bytesOf(long)), api.ErrLong},
		{"too long, and another length", sealedAs(223, long), api.ErrLong},
		{"just not too long, and all else is wrong", make([]byte, 223), api.ErrBad},
		{"another length, and no sum", noSum(sealedAs(24, hello())), api.ErrBad},
		{"another length, and not good", sealedAs(24, none), api.ErrBad},
		{"another length, no sum, and not good", noSum(sealedAs(22, none)), api.ErrBad},
		{"no sum, and not good", noSum(bytesOf(none)), api.ErrSum},
		{"no sum, and not good, of the most bytes", noSum(bytesOf(most)), api.ErrSum},
		{"no sum, and from 0", noSum(bytesOf(api.Packet{Kind: wire.Hello})), api.ErrSum},
		{"no sum alone", noSum(bytesOf(msg())), api.ErrSum},
		{"not good alone", bytesOf(none), api.ErrBad},
		{"not good alone, of the most bytes", bytesOf(most), api.ErrBad},
	} {
		if got, e := wire.Parse(c.b); e != c.want || !alike(got, api.Packet{}) {
			t.Errorf("%s: %+v, %v, want %v", c.what, got, e, c.want)
		}
	}
}
