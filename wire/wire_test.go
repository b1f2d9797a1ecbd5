package wire_test

import (
	"bytes"
	"math"
	"slices"
	"testing"

	"twain/api"
	"twain/sample"
	"twain/wire"
)

func TestP18_1TheKindsNumbers(t *testing.T) {
	if got := []int{wire.Hello, wire.Ping, wire.Msg}; !slices.Equal(got, kinds()) {
		t.Errorf("Hello, Ping, Msg: %v, want %v", got, kinds())
	}
}

// One of each kind that may be, none of its fields at an edge.
func hello() api.Packet { return api.Packet{From: 7, Kind: wire.Hello} }
func ping() api.Packet  { return api.Packet{From: 7, To: 8, Kind: wire.Ping, Ack: 9} }
func msg() api.Packet {
	return api.Packet{From: 7, To: 8, Kind: wire.Msg, Seq: 10, Ack: 9, Body: []byte{1, 2, 3}}
}

func TestP18_1Froms(t *testing.T) {
	for _, c := range []struct {
		from uint32
		want bool
	}{{0, false}, {1, true}, {2, true}, {1<<31 - 1, true}, {1 << 31, true}, {math.MaxUint32 - 1, true}, {math.MaxUint32, true}} {
		for _, p := range []api.Packet{hello(), ping(), msg()} {
			p.From = c.from
			asked(t, p, c.want)
		}
	}
}

func TestP18_1Tos(t *testing.T) {
	for _, c := range []struct {
		to               uint32
		hello, otherwise bool
	}{{0, true, false}, {1, false, true}, {2, false, true}, {1<<31 - 1, false, true}, {1 << 31, false, true}, {math.MaxUint32 - 1, false, true}, {math.MaxUint32, false, true}} {
		one, two, three := hello(), ping(), msg()
		one.To, two.To, three.To = c.to, c.to, c.to
		asked(t, one, c.hello)
		asked(t, two, c.otherwise)
		asked(t, three, c.otherwise)
	}
}

// A packet may go from a boot to one of the same number, or to a lesser one: the boots of two nodes hang on nothing of each other's.
func TestP18_1FromAndTo(t *testing.T) {
	for _, from := range boots()[1:] {
		for _, to := range boots()[1:] {
			two, three := ping(), msg()
			two.From, two.To, three.From, three.To = from, to, from, to
			asked(t, two, true)
			asked(t, three, true)
		}
	}
}

func TestP18_1Seqs(t *testing.T) {
	for _, c := range []struct {
		seq            int
		msg, otherwise bool
	}{{0, false, true}, {1, true, false}, {2, true, false}, {1<<31 - 2, true, false}, {1<<31 - 1, true, false}, {1 << 31, false, false}, {1<<31 + 1, false, false}, {1<<32 - 1, false, false}, {1 << 32, false, false}, {1<<32 + 1, false, false}, {math.MaxInt, false, false}, {-1, false, false}, {-10, false, false}, {math.MinInt32, false, false}, {1 - 1<<32, false, false}, {math.MinInt + 1, false, false}, {math.MinInt, false, false}} {
		one, two, three := hello(), ping(), msg()
		one.Seq, two.Seq, three.Seq = c.seq, c.seq, c.seq
		asked(t, one, c.otherwise)
		asked(t, two, c.otherwise)
		asked(t, three, c.msg)
	}
}

func TestP18_1Acks(t *testing.T) {
	for _, c := range []struct {
		ack              int
		hello, otherwise bool
	}{{0, true, true}, {1, false, true}, {2, false, true}, {1<<31 - 2, false, true}, {1<<31 - 1, false, true}, {1 << 31, false, false}, {1<<31 + 1, false, false}, {1<<32 - 1, false, false}, {1 << 32, false, false}, {1<<32 + 1, false, false}, {math.MaxInt, false, false}, {-1, false, false}, {-10, false, false}, {math.MinInt32, false, false}, {1 - 1<<32, false, false}, {math.MinInt + 1, false, false}, {math.MinInt, false, false}} {
		one, two, three := hello(), ping(), msg()
		one.Ack, two.Ack, three.Ack = c.ack, c.ack, c.ack
		asked(t, one, c.hello)
		asked(t, two, c.otherwise)
		asked(t, three, c.otherwise)
	}
}

func TestP18_1SizesOfBody(t *testing.T) {
	for size := range 600 {
		one, two, three := hello(), ping(), msg()
		body := make([]byte, size)
		one.Body, two.Body, three.Body = body, body, body
		asked(t, one, size == 0)
		asked(t, two, size == 0)
		asked(t, three, size >= 1 && size <= api.MaxBody)
	}
	for _, size := range []int{1 << 16, 1<<16 + 1, 1 << 20} {
		p := msg()
		p.Body = make([]byte, size)
		asked(t, p, false)
	}
}

// A Body need be no message: that is not this layer's to know.
func TestP18_1ABodyThatIsNoMessage(t *testing.T) {
	for first := range 256 {
		p := msg()
		p.Body = []byte{byte(first)}
		asked(t, p, true)
	}
}

// Each single field that a kind does not have, set to something, is one too many.
func TestP18_1WhatAKindDoesNotHave(t *testing.T) {
	type field struct {
		name string
		set  func(p *api.Packet)
	}
	setTo := func(n uint32) field { return field{"To", func(p *api.Packet) { p.To = n }} }
	setSeq := func(n int) field { return field{"Seq", func(p *api.Packet) { p.Seq = n }} }
	setAck := func(n int) field { return field{"Ack", func(p *api.Packet) { p.Ack = n }} }
	setBody := func(n int) field { return field{"Body", func(p *api.Packet) { p.Body = make([]byte, n) }} }
	fields := []field{
		setTo(1), setTo(8), setTo(1 << 31), setTo(math.MaxUint32),
		setSeq(1), setSeq(5), setSeq(-1), setSeq(greatest), setSeq(greatest + 1), setSeq(1 << 32), setSeq(math.MinInt), setSeq(math.MaxInt),
		setAck(1), setAck(5), setAck(-1), setAck(greatest), setAck(greatest + 1), setAck(1 << 32), setAck(math.MinInt), setAck(math.MaxInt),
		setBody(1), setBody(2), setBody(16), setBody(200), setBody(256),
	}
	for _, c := range []struct {
		good api.Packet
		has  []string
	}{
		{hello(), nil},
		{api.Packet{From: math.MaxUint32, Kind: wire.Hello}, nil},
		{ping(), []string{"To", "Ack"}},
		{api.Packet{From: 1, To: 1, Kind: wire.Ping}, []string{"To", "Ack"}},
	} {
		asked(t, c.good, true)
		for _, f := range fields {
			if !slices.Contains(c.has, f.name) {
				p := c.good
				f.set(&p)
				asked(t, p, false)
			}
		}
	}
}

func TestP18_1WrongKinds(t *testing.T) {
	for _, kind := range noKinds() {
		for _, p := range few() {
			p.Kind = kind
			asked(t, p, false)
		}
		asked(t, api.Packet{Kind: kind}, false)
		asked(t, api.Packet{From: 1, Kind: kind}, false)
	}
	asked(t, api.Packet{}, false)
}

// No two kinds have the same: a packet whose Kind alone is turned to another kind is none.
func TestP18_1OfAnotherKind(t *testing.T) {
	for _, p := range goods() {
		for _, kind := range kinds() {
			other := p
			other.Kind = kind
			asked(t, other, kind == p.Kind)
		}
	}
}

// All fields crossed, of each kind and of some that are none: of each kind some are good.
func TestP18_1AllCrossed(t *testing.T) {
	someBoots, someCounts, someSizes := []uint32{0, 1, math.MaxUint32}, []int{0, 1, greatest, greatest + 1, -1}, []int{0, 1, 200, 201}
	for _, kind := range append(kinds(), 0, 4, -1, 256+3, math.MinInt+2) {
		good := 0
		for _, p := range slices.Concat(
			crossed(kind, someBoots, someBoots, someCounts, someCounts, someSizes),
			crossed(kind, boots(), boots(), []int{0, 7}, []int{0, 7}, []int{0, 7}),
			crossed(kind, []uint32{0, 3}, []uint32{0, 3}, counts(), counts(), []int{0, 5}),
			crossed(kind, []uint32{0, 3}, []uint32{0, 3}, []int{0, 7}, []int{0, 7}, sizes()),
		) {
			if looked(t, p) {
				good++
			}
		}
		if isKind := kind >= 1 && kind <= 3; isKind != (good > 0) {
			t.Errorf("of kind %d: %d are good", kind, good)
		}
	}
}

// written is a packet, and its bytes written out, the sum among them.
type written struct {
	p api.Packet
	b []byte
}

// examples: of each kind packets with each edge of what it has.
func examples() []written {
	const most = math.MaxUint32
	return []written{
		{api.Packet{From: 1, Kind: wire.Hello}, []byte{0, 23, 0, 0, 0, 1, 0, 0, 0, 0, 1, 0, 0, 0, 0, 0, 0, 0, 0, 38, 106, 241, 159}},
		{api.Packet{From: 0x01020304, Kind: wire.Hello}, []byte{0, 23, 1, 2, 3, 4, 0, 0, 0, 0, 1, 0, 0, 0, 0, 0, 0, 0, 0, 18, 128, 41, 10}},
		{api.Packet{From: most, Kind: wire.Hello}, []byte{0, 23, 255, 255, 255, 255, 0, 0, 0, 0, 1, 0, 0, 0, 0, 0, 0, 0, 0, 18, 133, 238, 52}},
		{api.Packet{From: 1, To: 1, Kind: wire.Ping}, []byte{0, 23, 0, 0, 0, 1, 0, 0, 0, 1, 2, 0, 0, 0, 0, 0, 0, 0, 0, 221, 61, 190, 73}},
		{api.Packet{From: 1, To: 2, Kind: wire.Ping, Ack: 1}, []byte{0, 23, 0, 0, 0, 1, 0, 0, 0, 2, 2, 0, 0, 0, 0, 0, 0, 0, 1, 72, 182, 142, 213}},
		{api.Packet{From: 0x01020304, To: 0x05060708, Kind: wire.Ping, Ack: 0x090a0b0c}, []byte{0, 23, 1, 2, 3, 4, 5, 6, 7, 8, 2, 0, 0, 0, 0, 9, 10, 11, 12, 239, 160, 135, 97}},
		{api.Packet{From: most, To: most, Kind: wire.Ping, Ack: 1<<31 - 1}, []byte{0, 23, 255, 255, 255, 255, 255, 255, 255, 255, 2, 0, 0, 0, 0, 127, 255, 255, 255, 114, 150, 10, 206}},
		{api.Packet{From: 1, To: 1, Kind: wire.Msg, Seq: 1, Body: []byte{0}}, []byte{0, 24, 0, 0, 0, 1, 0, 0, 0, 1, 3, 0, 0, 0, 1, 0, 0, 0, 0, 0, 140, 209, 40, 77}},
		{api.Packet{From: 2, To: 1, Kind: wire.Msg, Seq: 1, Ack: 1, Body: []byte{255}}, []byte{0, 24, 0, 0, 0, 2, 0, 0, 0, 1, 3, 0, 0, 0, 1, 0, 0, 0, 1, 255, 57, 101, 76, 104}},
		{api.Packet{From: 0x01020304, To: 0x05060708, Kind: wire.Msg, Seq: 0x090a0b0c, Ack: 0x0d0e0f10, Body: []byte("body")}, []byte{0, 27, 1, 2, 3, 4, 5, 6, 7, 8, 3, 9, 10, 11, 12, 13, 14, 15, 16, 'b', 'o', 'd', 'y', 241, 76, 153, 213}},
		{api.Packet{From: most, To: most, Kind: wire.Msg, Seq: 1<<31 - 1, Ack: 1<<31 - 1, Body: []byte("a")}, []byte{0, 24, 255, 255, 255, 255, 255, 255, 255, 255, 3, 127, 255, 255, 255, 127, 255, 255, 255, 'a', 43, 178, 140, 133}},
		{api.Packet{From: most, To: most, Kind: wire.Msg, Seq: 1<<31 - 1, Ack: 1<<31 - 1, Body: make([]byte, 200)}, slices.Concat([]byte{0, 223, 255, 255, 255, 255, 255, 255, 255, 255, 3, 127, 255, 255, 255, 127, 255, 255, 255}, make([]byte, 200), []byte{78, 11, 148, 166})},
		{api.Packet{From: 1, To: 1, Kind: wire.Msg, Seq: 1, Body: bytes.Repeat([]byte{255}, 200)}, slices.Concat([]byte{0, 223, 0, 0, 0, 1, 0, 0, 0, 1, 3, 0, 0, 0, 1, 0, 0, 0, 0}, bytes.Repeat([]byte{255}, 200), []byte{54, 20, 160, 23})},
	}
}

func TestP18_2ByExample(t *testing.T) {
	for _, c := range examples() {
		if got := wire.Bytes(c.p); !bytes.Equal(got, c.b) {
			t.Errorf("Bytes(%+v): %v, want %v", c.p, got, c.b)
		}
		if got, e := wire.Parse(c.b); !alike(got, c.p) || e != api.OK {
			t.Errorf("Parse(%v): %+v, %v, want %+v", c.b, got, e, c.p)
		}
	}
	first := wire.Bytes(api.Packet{From: 1, Kind: wire.Hello})
	if len(first) != 23 {
		t.Errorf("a Hello from 1: %d bytes, want 23", len(first))
	}
	refused(t, first[:22], api.ErrShort)
}

func TestP18_2Bytes(t *testing.T) {
	for _, p := range goods() {
		if !looked(t, p) {
			t.Fatalf("%+v is not good", p)
		}
	}
}

func TestP18_2BytesOfNoPacket(t *testing.T) {
	for _, p := range []api.Packet{
		{},
		{Kind: wire.Hello},
		{From: 1},
		{From: 1, Kind: 4},
		{From: 1, Kind: -1},
		{From: 1, Kind: 256 + wire.Hello},
		{From: 1, To: 1, Kind: wire.Hello},
		{From: 1, Kind: wire.Hello, Seq: 1},
		{From: 1, Kind: wire.Hello, Ack: 1},
		{From: 1, Kind: wire.Hello, Body: []byte{0}},
		{From: 1, Kind: wire.Ping},
		{From: 1, To: 1, Kind: wire.Ping, Seq: 1},
		{From: 1, To: 1, Kind: wire.Ping, Ack: -1},
		{From: 1, To: 1, Kind: wire.Ping, Ack: 1 << 31},
		{From: 1, To: 1, Kind: wire.Ping, Body: []byte{0}},
		{From: 1, To: 1, Kind: wire.Msg, Body: []byte{0}},
		{From: 1, To: 1, Kind: wire.Msg, Seq: -1, Body: []byte{0}},
		{From: 1, To: 1, Kind: wire.Msg, Seq: 1 << 31, Body: []byte{0}},
		{From: 1, To: 1, Kind: wire.Msg, Seq: 1<<32 + 1, Body: []byte{0}},
		{From: 1, To: 1, Kind: wire.Msg, Seq: 1, Ack: 1 << 32, Body: []byte{0}},
		{From: 1, To: 1, Kind: wire.Msg, Seq: 1},
		{From: 1, To: 1, Kind: wire.Msg, Seq: 1, Body: make([]byte, 201)},
		{From: 1, To: 1, Kind: wire.Msg, Seq: 1, Body: make([]byte, 1<<16+1)},
		{From: 1, Kind: wire.Msg, Seq: 1, Body: []byte{0}},
		{To: 1, Kind: wire.Msg, Seq: 1, Body: []byte{0}},
	} {
		if got := wire.Bytes(p); got != nil {
			t.Errorf("Bytes(%+v): %v, want nil", p, got)
		}
	}
}

// differing: packets that differ from p in one field alone, in one byte of Body, and in its length alone.
func differing(p api.Packet) []api.Packet {
	var list []api.Packet
	change := func(do func(p *api.Packet)) {
		other := p
		other.Body = bytes.Clone(p.Body)
		do(&other)
		list = append(list, other)
	}
	for bit := range 64 {
		change(func(p *api.Packet) { p.Kind ^= 1 << bit })
		change(func(p *api.Packet) { p.Seq ^= 1 << bit })
		change(func(p *api.Packet) { p.Ack ^= 1 << bit })
	}
	for bit := range 32 {
		change(func(p *api.Packet) { p.From ^= 1 << bit })
		change(func(p *api.Packet) { p.To ^= 1 << bit })
	}
	for i := range p.Body {
		change(func(p *api.Packet) { p.Body[i] ^= 1 << (i % 8) })
	}
	change(func(p *api.Packet) { p.Body = append(p.Body, 0) })
	change(func(p *api.Packet) { p.Body = append(p.Body, make([]byte, 16)...) })
	if len(p.Body) > 0 {
		change(func(p *api.Packet) { p.Body = p.Body[:len(p.Body)-1] })
		change(func(p *api.Packet) { p.Body = nil })
	}
	return list
}

func TestP18_2Same(t *testing.T) {
	list := []api.Packet{
		{},
		{From: math.MaxUint32, To: math.MaxUint32, Kind: -1, Seq: math.MinInt, Ack: math.MaxInt, Body: []byte{0}},
		{Kind: 9, Body: make([]byte, 300)},
		{Kind: wire.Hello},
		{From: 1, To: 2, Kind: wire.Hello, Seq: -5, Ack: 7, Body: sample.Bytes(5)},
	}
	for _, c := range examples() {
		list = append(list, c.p)
	}
	for _, p := range list {
		copied := p
		copied.Body = bytes.Clone(p.Body)
		if !wire.Same(p, p) || !wire.Same(p, copied) {
			t.Errorf("Same of %+v and itself: false", p)
		}
		for _, other := range differing(p) {
			if wire.Same(p, other) || wire.Same(other, p) {
				t.Errorf("Same of %+v and %+v: true", p, other)
			}
		}
	}
	for i, a := range list {
		for j, b := range list {
			if got := wire.Same(a, b); got != (i == j) {
				t.Errorf("Same(%+v, %+v): %v", a, b, got)
			}
		}
	}
}

// Two fields that have each other's number, and a Body in which a byte is turned while another one makes up for it, or in another order, are other ones.
func TestP18_2SameFieldByField(t *testing.T) {
	one := api.Packet{From: 1, To: 2, Kind: 3, Seq: 4, Ack: 5, Body: sample.Bytes(64)}
	others := []api.Packet{
		{From: 2, To: 1, Kind: 3, Seq: 4, Ack: 5, Body: one.Body},
		{From: 1, To: 2, Kind: 4, Seq: 3, Ack: 5, Body: one.Body},
		{From: 1, To: 2, Kind: 3, Seq: 5, Ack: 4, Body: one.Body},
		{From: 1, To: 2, Kind: 5, Seq: 4, Ack: 3, Body: one.Body},
		{From: 1, To: 2, Kind: 3, Seq: 4, Ack: 5, Body: sample.Falling(one.Body)},
	}
	for i := 1; i < 64; i++ {
		other := one
		other.Body = bytes.Clone(one.Body)
		other.Body[i]++
		other.Body[i-1]--
		others = append(others, other)
	}
	for _, other := range others {
		if wire.Same(one, other) || wire.Same(other, one) {
			t.Errorf("Same(%+v, %+v): true", one, other)
		}
	}
}

func TestP18_2Name(t *testing.T) {
	for kind, want := range map[int]string{wire.Hello: "hello", wire.Ping: "ping", wire.Msg: "msg", 0: "unknown", 4: "unknown", -1: "unknown", math.MaxInt: "unknown", math.MinInt: "unknown"} {
		if got := wire.Name(kind); got != want {
			t.Errorf("Name(%d): %q, want %q", kind, got, want)
		}
	}
	for _, kind := range noKinds() {
		if got := wire.Name(kind); got != "unknown" {
			t.Errorf("Name(%d): %q, want unknown", kind, got)
		}
	}
}
