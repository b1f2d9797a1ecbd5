package wire_test

import (
	"bytes"
	"hash/crc32"
	"testing"

	"twain/api"
	"twain/sample"
	"twain/wire"
)

func TestP18_3AGoodPacketComesBack(t *testing.T) {
	count := map[int]int{}
	for _, p := range goods() {
		b := wire.Bytes(p)
		got, e := wire.Parse(b)
		if e != api.OK || !alike(got, p) || !wire.Same(got, p) {
			t.Fatalf("Parse of Bytes(%+v), %v: %+v, %v", p, b, got, e)
		}
		if !wire.Good(got) {
			t.Fatalf("Parse(%v): %+v, which is not Good", b, got)
		}
		count[p.Kind]++
	}
	for _, kind := range kinds() {
		if count[kind] == 0 {
			t.Errorf("of kind %d none was tried", kind)
		}
	}
}

// Packets of no pattern come back, and no two of them that differ have the same bytes.
func TestP18_3PacketsOfNoPattern(t *testing.T) {
	words := sample.Words()[130:]
	seen := map[string]api.Packet{}
	for i, w := range words[:1500] {
		v := words[i+400]
		p := api.Packet{From: 1 + uint32(w>>33), Kind: 1 + i%3}
		if p.Kind != wire.Hello {
			p.To, p.Ack = 1+uint32(v>>33), int(w&greatest)
		}
		if p.Kind == wire.Msg {
			p.Seq, p.Body = 1+int(v%greatest), sample.Bytes(400)[i%200:][:1+w>>20%200]
		}
		if !looked(t, p) {
			t.Fatalf("%+v is not good", p)
		}
		b := wire.Bytes(p)
		if got, e := wire.Parse(b); e != api.OK || !alike(got, p) {
			t.Fatalf("Parse(%v): %+v, %v, want %+v", b, got, e, p)
		}
		if first, there := seen[string(b)]; there && !alike(first, p) {
			t.Fatalf("Bytes of %+v and of %+v are both %v", first, p, b)
		}
		seen[string(b)] = p
	}
}

// Many bytes of each length: what is a packet is the bytes of that packet. More of them are, where the length fits, and the sum; and where the numbers are small.
func TestP18_3BytesComeBack(t *testing.T) {
	found := map[api.Errno]int{}
	for size := range 240 {
		for skip := range 60 {
			b := sample.Bytes(size + skip)[skip:]
			found[read(t, b)]++
			if size < 23 {
				continue
			}
			b[0], b[1] = byte(size/256), byte(size%256)
			found[read(t, b)]++
			found[read(t, sealed(b[:size-4]))]++
			for i := 2; i < 19; i++ {
				b[i] %= 2
			}
			for kind := range 5 {
				b[10] = byte(kind)
				found[read(t, sealed(b[:size-4]))]++
				found[read(t, b)]++
			}
		}
	}
	for _, e := range []api.Errno{api.OK, api.ErrShort, api.ErrLong, api.ErrBad, api.ErrSum} {
		if found[e] < 100 {
			t.Errorf("of many bytes %d are answered with %v", found[e], e)
		}
	}
}

// The bytes of packets, spoilt, and sealed anew: each byte turned to each other one, and two changed for each other.
func TestP18_3SpoiltBytesComeBack(t *testing.T) {
	found := map[api.Errno]int{}
	for _, c := range examples() {
		end := len(c.b) - 4
		for i := range end {
			for turn := 1; turn < 256; turn++ {
				found[read(t, sealed(sample.Turned(c.b[:end], i, uint32(turn))))]++
			}
			for j := range min(i, 30) {
				b := bytes.Clone(c.b)
				b[i], b[j] = b[j], b[i]
				found[read(t, b)]++
				found[read(t, sealed(b[:end]))]++
			}
		}
	}
	for _, e := range []api.Errno{api.OK, api.ErrBad, api.ErrSum} {
		if found[e] < 100 {
			t.Errorf("of spoilt bytes %d are answered with %v", found[e], e)
		}
	}
}

// Each byte of a packet turned to each other one: another length is none, and else the sum is another one.
func TestP18_3OneByteTurned(t *testing.T) {
	for _, c := range examples() {
		for place := range c.b {
			want := api.ErrSum
			if place < 2 {
				want = api.ErrBad
			}
			for turn := 1; turn < 256; turn++ {
				b := bytes.Clone(c.b)
				b[place] ^= byte(turn)
				refused(t, b, want)
			}
		}
	}
}

func TestP18_3SomeBytesWithinFourTurned(t *testing.T) {
	for _, c := range examples() {
		for other := range sample.OthersEverywhere(c.b) {
			want := api.ErrSum
			if other[0] != c.b[0] || other[1] != c.b[1] {
				want = api.ErrBad
			}
			refused(t, other, want)
		}
	}
}

// off: how far the sum of the bytes, and the four behind them, are apart.
func off(b []byte) uint32 {
	end := len(b) - 4
	return crc32.ChecksumIEEE(b[:end]) ^ uint32(sample.Number(sample.Falling(b[end:])))
}

// How far both are apart when bits are turned is the xor of how far they are by each bit alone. Where no xor of some of the 32 bits of four bytes is 0, no other four bytes fit, whichever they are.
func TestP18_3NoOtherFourBytesFit(t *testing.T) {
	for size := range api.MaxBody + 1 {
		p := ping()
		if size > 0 {
			p = msg()
			p.Body = sample.Bytes(size)
		}
		b := wire.Bytes(p)
		if off(b) != 0 {
			t.Fatalf("Bytes(%+v): the sum is off by %#x", p, off(b))
		}
		for place := range len(b) - 3 {
			words := make([]uint32, 32)
			for bit := range words {
				words[bit] = off(sample.Turned(b, place, 1<<bit))
			}
			if got := sample.Rank(words); got != 32 {
				t.Fatalf("of %d bytes, those from %d on: the 32 bits turn the sum in %d ways that are no xor of others", len(b), place, got)
			}
		}
	}
}

// Of bytes cut off at the end the length tells that they lack it.
func TestP18_3SomeBytesCutOff(t *testing.T) {
	list := few()
	for _, c := range examples() {
		list = append(list, c.p)
	}
	for _, p := range list {
		b := wire.Bytes(p)
		for have := range b {
			want := api.ErrBad
			if have < 23 {
				want = api.ErrShort
			}
			refused(t, b[:have], want)
			refused(t, bytes.Clone(b[:have]), want)
		}
	}
}

func TestP18_3SomeBytesMoreBehindIt(t *testing.T) {
	list := few()
	for _, c := range examples() {
		list = append(list, c.p)
	}
	for _, p := range list {
		b := wire.Bytes(p)
		for _, more := range [][]byte{make([]byte, 250), bytes.Repeat([]byte{255}, 250), sample.Bytes(250), append(bytes.Clone(b), b...)} {
			for size := 1; size <= min(len(more), 240); size++ {
				want := api.ErrBad
				if len(b)+size > 223 {
					want = api.ErrLong
				}
				refused(t, append(bytes.Clone(b), more[:size]...), want)
			}
		}
		// Sealed once more, and with more ahead of it.
		want := api.ErrBad
		if len(b)+4 > 223 {
			want = api.ErrLong
		}
		refused(t, sealed(b), want)
		if e := read(t, append([]byte{0}, b...)); e == api.OK {
			t.Fatalf("a nought, and then %v: a packet", b)
		}
	}
}

func TestR3WhatIsHandedInStaysAsItWas(t *testing.T) {
	for _, p := range append(few(), api.Packet{Kind: 9, Body: sample.Bytes(20)}, api.Packet{From: 1, To: 1, Kind: 3, Seq: 1, Body: sample.Bytes(201)}) {
		for _, room := range []int{0, 1, 4, 23, 300} {
			whole := p
			var memory []byte
			whole.Body, memory = sample.WithRoom(p.Body, 99, room)
			was := bytes.Clone(memory)
			wire.Good(whole)
			wire.Bytes(whole)
			wire.Same(whole, p)
			if !bytes.Equal(memory, was) {
				t.Fatalf("of %+v, the Body and the room behind it: %v, were %v", p, memory, was)
			}
			b := bytesOf(p)
			for _, b := range [][]byte{b, append(bytes.Clone(b), 0), b[1:], sample.Turned(b, 5, 1)} {
				part, memory := sample.WithRoom(b, 99, room)
				was := bytes.Clone(memory)
				wire.Parse(part)
				if !bytes.Equal(memory, was) {
					t.Fatalf("Parse(%v): the bytes and the room behind them: %v, were %v", b, memory, was)
				}
			}
		}
	}
}

// What is handed in may be changed behind the call, and what was answered stays as it was.
func TestR3WhatIsHandedInIsNotKept(t *testing.T) {
	for _, p := range few() {
		handed := p
		handed.Body, _ = sample.WithRoom(p.Body, 99, 20)
		b := wire.Bytes(handed)
		sample.Spoil(handed.Body)
		if want := bytesOf(p); !bytes.Equal(b, want) {
			t.Fatalf("Bytes(%+v), and its Body is changed: %v, were %v", p, b, want)
		}
		got, _ := wire.Parse(b)
		sample.Spoil(b)
		if !alike(got, p) {
			t.Fatalf("Parse of the bytes of %+v, and they are changed: %+v", p, got)
		}
	}
}

// An answer may be changed, with its spare room: neither what was handed in nor another answer shows it.
func TestR3AnswersAreNewMemory(t *testing.T) {
	for _, p := range few() {
		handed := p
		var memory []byte
		handed.Body, memory = sample.WithRoom(p.Body, 99, 20)
		was := bytes.Clone(memory)
		one, two := wire.Bytes(handed), wire.Bytes(handed)
		sample.Spoil(one)
		if want := bytesOf(p); !bytes.Equal(memory, was) || !bytes.Equal(two, want) {
			t.Fatalf("Bytes(%+v) is changed: the Body and the room behind it are %v, another answer %v", p, memory, two)
		}
		b, memory := sample.WithRoom(bytesOf(p), 99, 20)
		was = bytes.Clone(memory)
		first, _ := wire.Parse(b)
		second, _ := wire.Parse(b)
		sample.Spoil(first.Body)
		if !bytes.Equal(memory, was) || !alike(second, p) {
			t.Fatalf("Parse(%v) is changed: the bytes and the room behind them are %v, another answer %+v", b, memory, second)
		}
	}
}

func TestR3NilAndEmpty(t *testing.T) {
	nothing := [][]byte{nil, {}, make([]byte, 0, 64), sample.Bytes(64)[:0]}
	for _, c := range examples() {
		if len(c.p.Body) > 0 {
			continue
		}
		for _, body := range nothing {
			p := c.p
			p.Body = body
			asked(t, p, true)
			if got := wire.Bytes(p); !bytes.Equal(got, c.b) {
				t.Errorf("Bytes(%+v), without a Body: %v, want %v", p, got, c.b)
			}
			for _, other := range nothing {
				o := c.p
				o.Body = other
				if !wire.Same(p, o) {
					t.Errorf("Same of %+v and itself, both without a Body: false", p)
				}
			}
		}
	}
	for _, body := range nothing {
		refused(t, body, api.ErrShort)
		p := msg()
		p.Body = body
		asked(t, p, false)
	}
}

// No call keeps what it was asked: the same is answered again behind other calls.
func TestR4NothingIsKept(t *testing.T) {
	for range 2 {
		for _, way := range sample.WaysThrough[written]() {
			for _, c := range way(examples()) {
				refused(t, []byte{0, 3, 9}, api.ErrShort)
				refused(t, make([]byte, 23), api.ErrBad)
				asked(t, api.Packet{From: 1, To: 1, Kind: wire.Ping, Ack: -1}, false)
				if got := wire.Bytes(c.p); !bytes.Equal(got, c.b) {
					t.Fatalf("Bytes(%+v): %v, want %v", c.p, got, c.b)
				}
				if got, e := wire.Parse(c.b); e != api.OK || !alike(got, c.p) {
					t.Fatalf("Parse(%v): %+v, %v, want %+v", c.b, got, e, c.p)
				}
			}
		}
	}
}
