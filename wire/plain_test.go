package wire_test

import (
	"bytes"
	"hash/crc32"
	"math"
	"slices"
	"testing"

	"twain/api"
	"twain/sample"
	"twain/wire"
)

// greatest is the last Seq, and the last Ack, that may be.
const greatest = 2147483647

// isGood: Good by the chapter's words, one kind behind the other, with the limits' numbers written out.
func isGood(p api.Packet) bool {
	isFrom, isTo := p.From >= 1, p.To >= 1
	isSeq, isAck := p.Seq >= 1 && p.Seq <= 2147483647, p.Ack >= 0 && p.Ack <= 2147483647
	switch p.Kind {
	case 1:
		return isFrom && p.To == 0 && p.Seq == 0 && p.Ack == 0 && len(p.Body) == 0
	case 2:
		return isFrom && isTo && p.Seq == 0 && isAck && len(p.Body) == 0
	case 3:
		return isFrom && isTo && isSeq && isAck && len(p.Body) >= 1 && len(p.Body) <= 200
	}
	return false
}

// sealed: the bytes, and behind them their sum, the lowest byte first, with the library's sum.
func sealed(b []byte) []byte {
	sum := crc32.ChecksumIEEE(b)
	return slices.Concat(b, []byte{byte(sum), byte(sum >> 8), byte(sum >> 16), byte(sum >> 24)})
}

// sealedAs: as the bytes of a packet, with that in the first two bytes, and a sum that fits.
func sealedAs(length int, p api.Packet) []byte {
	return sealed(slices.Concat(
		sample.HighestFirst(uint64(length), 2),
		sample.HighestFirst(uint64(p.From), 4),
		sample.HighestFirst(uint64(p.To), 4),
		[]byte{byte(p.Kind)},
		sample.HighestFirst(uint64(p.Seq), 4),
		sample.HighestFirst(uint64(p.Ack), 4),
		p.Body,
	))
}

// bytesOf: Bytes by the chapter's words, also of a packet that is not good: of its numbers what there is room for.
func bytesOf(p api.Packet) []byte { return sealedAs(23+len(p.Body), p) }

// parsed: Parse by the chapter's words.
func parsed(b []byte) (api.Packet, api.Errno) {
	switch {
	case len(b) < 23:
		return api.Packet{}, api.ErrShort
	case len(b) > 223:
		return api.Packet{}, api.ErrLong
	case sample.Number(b[:2]) != uint64(len(b)):
		return api.Packet{}, api.ErrBad
	case !bytes.Equal(sealed(b[:len(b)-4]), b):
		return api.Packet{}, api.ErrSum
	}
	p := api.Packet{
		From: uint32(sample.Number(b[2:6])),
		To:   uint32(sample.Number(b[6:10])),
		Kind: int(b[10]),
		Seq:  int(sample.Number(b[11:15])),
		Ack:  int(sample.Number(b[15:19])),
		Body: b[19 : len(b)-4],
	}
	if !isGood(p) {
		return api.Packet{}, api.ErrBad
	}
	return p, api.OK
}

// alike: have two packets the same fields, Body byte by byte? It is asked by what == tells of each field, so that no test of Parse hangs on Same.
func alike(a, b api.Packet) bool {
	type plain struct {
		from, to       uint32
		kind, seq, ack int
		body           string
	}
	return plain{a.From, a.To, a.Kind, a.Seq, a.Ack, string(a.Body)} == plain{b.From, b.To, b.Kind, b.Seq, b.Ack, string(b.Body)}
}

// kinds: all three.
func kinds() []int { return []int{1, 2, 3} }

// noKinds: numbers that are none of the three; many have a kind's lowest byte, or its lowest bits.
func noKinds() []int {
	list := []int{0, 4, 5, 8, 16, 128, 255, 256, 512, 1 << 16, 1 << 31, 1 << 32, -4, -255, -256, math.MaxInt32, math.MinInt32, math.MaxInt - 1, math.MaxInt, math.MinInt}
	for _, kind := range kinds() {
		list = append(list, -kind, 4+kind, 16+kind, 128+kind, 256+kind, 512+kind, 1<<16+kind, 1<<32+kind, 1<<62+kind, kind-256, math.MinInt+kind)
	}
	return list
}

// boots: of From and of To: none, the ends, and one with all bytes unlike.
func boots() []uint32 {
	return []uint32{0, 1, 2, 255, 256, 0x01020304, 1<<31 - 1, 1 << 31, math.MaxUint32 - 1, math.MaxUint32}
}

// counts: of Seq and of Ack: those that may be, at both ends and with all bytes unlike, and those that may not; the lowest four bytes of many of these may be.
func counts() []int {
	return []int{0, 1, 2, 255, 256, 0x01020304, 1 << 24, greatest - 1, greatest, greatest + 1, greatest + 2, 1<<32 - 1, 1 << 32, 1<<32 + 1, 1<<62 + 1, math.MaxInt - 1, math.MaxInt, -1, -2, math.MinInt32, -greatest, -1 << 32, 1 - 1<<32, math.MinInt, math.MinInt + 1}
}

// sizes: of a Body: none, some, the most, and more than that.
func sizes() []int { return []int{0, 1, 2, 16, 199, 200, 201, 256, 257, 1000} }

// crossed: packets of that kind, whatever it has, all fields crossed.
func crossed(kind int, froms, tos []uint32, seqs, acks, sizes []int) []api.Packet {
	var list []api.Packet
	for _, from := range froms {
		for _, to := range tos {
			for _, seq := range seqs {
				for _, ack := range acks {
					for _, size := range sizes {
						list = append(list, api.Packet{From: from, To: to, Kind: kind, Seq: seq, Ack: ack, Body: sample.Bytes(size)})
					}
				}
			}
		}
	}
	return list
}

// goods: packets of each kind that may be, with each edge of what they have, and Bodies of noughts, of 255s and of no pattern.
func goods() []api.Packet {
	var list []api.Packet
	seqs, acks := []int{1, 0x01020304, greatest}, []int{0, 1, 0x05060708, greatest}
	for _, from := range boots()[1:] {
		list = append(list, api.Packet{From: from, Kind: 1})
		for _, to := range boots()[1:] {
			list = append(list, crossed(2, []uint32{from}, []uint32{to}, []int{0}, acks, []int{0})...)
			list = append(list, crossed(3, []uint32{from}, []uint32{to}, seqs, acks, []int{1, 9, 200})...)
		}
	}
	for size := 1; size <= 200; size++ {
		for _, body := range [][]byte{make([]byte, size), bytes.Repeat([]byte{255}, size), sample.Bytes(size)} {
			list = append(list, api.Packet{From: 2, To: 1, Kind: 3, Seq: 300 + size, Ack: 70000 - size, Body: body})
		}
	}
	return list
}

// few: goods, but for most of them; some of each kind.
func few() []api.Packet {
	var list []api.Packet
	for i, p := range goods() {
		if p.Kind == 1 || i%37 == 0 {
			list = append(list, p)
		}
	}
	return list
}

// looked: are Good and Bytes of a packet as the chapter's words tell?
func looked(t *testing.T, p api.Packet) bool {
	t.Helper()
	want := isGood(p)
	asked(t, p, want)
	if b := wire.Bytes(p); want && !bytes.Equal(b, bytesOf(p)) {
		t.Fatalf("Bytes(%+v): %v, want %v", p, b, bytesOf(p))
	}
	return want
}

// asked: is Good of the packet that, and are there Bytes only if it is?
func asked(t *testing.T, p api.Packet, want bool) {
	t.Helper()
	if got := wire.Good(p); got != want {
		t.Fatalf("Good(%+v): %v, want %v", p, got, want)
	}
	if b := wire.Bytes(p); (b != nil) != want {
		t.Fatalf("Bytes(%+v): %v, where Good should be %v", p, b, want)
	}
}

// read: is Parse's answer as the chapter's words tell? Of bytes that are a packet, they are its bytes.
func read(t *testing.T, b []byte) api.Errno {
	t.Helper()
	want, wantE := parsed(b)
	got, e := wire.Parse(b)
	if e != wantE || !alike(got, want) {
		t.Fatalf("Parse(%v): %+v, %v, want %+v, %v", b, got, e, want, wantE)
	}
	if back := wire.Bytes(got); e == api.OK && !bytes.Equal(back, b) {
		t.Fatalf("Parse(%v): %+v, whose Bytes are %v", b, got, back)
	}
	return e
}

// refused: is Parse's answer that error alone?
func refused(t *testing.T, b []byte, want api.Errno) {
	t.Helper()
	if got, e := wire.Parse(b); e != want || !alike(got, api.Packet{}) {
		t.Fatalf("Parse(%v): %+v, %v, want the zero one, %v", b, got, e, want)
	}
}
