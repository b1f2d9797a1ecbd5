package seal_test

import (
	"bytes"
	"hash/crc32"
	"math"
	"slices"
	"testing"

	"twain/api"
	"twain/sample"
	"twain/seal"
)

// sealed: Put by the chapter's words, with the library's sum.
func sealed(b []byte) []byte {
	sum := crc32.ChecksumIEEE(b)
	return slices.Concat(b, []byte{byte(sum), byte(sum >> 8), byte(sum >> 16), byte(sum >> 24)})
}

// recorded: Record by the chapter's words, byte by byte.
func recorded(n uint32, payload uint64) api.Sector {
	list := []byte{byte(n >> 24), byte(n >> 16), byte(n >> 8), byte(n)}
	for i := 7; i >= 0; i-- {
		list = append(list, byte(payload>>(8*i)))
	}
	return api.Sector(sealed(list))
}

// parts is what a record holds.
type parts struct {
	n       uint32
	payload uint64
}

// all: the ends and those beside them crossed, each bit of both alone, and parts of no pattern.
func all() []parts {
	var list []parts
	for _, n := range []uint32{0, 1, 2, 0x01020304, math.MaxInt32, 1 << 31, math.MaxUint32 - 1, math.MaxUint32} {
		for _, payload := range []uint64{0, 1, 2, 0x05060708090a0b0c, math.MaxInt64, 1 << 63, math.MaxUint64 - 1, math.MaxUint64} {
			list = append(list, parts{n, payload})
		}
	}
	words := sample.Words()
	for i, w := range words {
		list = append(list, parts{uint32(w >> 32), words[len(words)-1-i]}, parts{uint32(w), w})
	}
	return list
}

// noRecord: is the sector none, with nothing told beside that?
func noRecord(t *testing.T, s api.Sector) {
	t.Helper()
	if n, payload, ok := seal.Open(s); n != 0 || payload != 0 || ok {
		t.Fatalf("Open(%v): %d, %d, %v, want 0, 0, false", s, n, payload, ok)
	}
}

// refused: is Get's answer that error alone?
func refused(t *testing.T, b []byte, want api.Errno) {
	t.Helper()
	if got, e := seal.Get(b); len(got) != 0 || e != want {
		t.Fatalf("Get(%v): %v, %v, want none, %v", b, got, e, want)
	}
}

func TestP5_1PutByExample(t *testing.T) {
	for _, c := range []struct{ b, want []byte }{
		{nil, []byte{0, 0, 0, 0}},
		{[]byte{}, []byte{0, 0, 0, 0}},
		{[]byte{0}, []byte{0, 0x8d, 0xef, 0x02, 0xd2}},
		{[]byte("a"), []byte{'a', 0x43, 0xbe, 0xb7, 0xe8}},
		{[]byte("abc"), []byte{'a', 'b', 'c', 0xc2, 0x41, 0x24, 0x35}},
		{[]byte{0, 0, 0, 0}, []byte{0, 0, 0, 0, 0x1c, 0xdf, 0x44, 0x21}},
		{[]byte{255, 255, 255, 255}, []byte{255, 255, 255, 255, 255, 255, 255, 255}},
		{[]byte("12345"), []byte{'1', '2', '3', '4', '5', 0x1c, 0x3a, 0xf5, 0xcb}},
		{[]byte("123456789"), []byte{'1', '2', '3', '4', '5', '6', '7', '8', '9', 0x26, 0x39, 0xf4, 0xcb}},
	} {
		if got := seal.Put(c.b); !bytes.Equal(got, c.want) {
			t.Errorf("Put(%v): %v, want %v", c.b, got, c.want)
		}
	}
}

func TestP5_1Put(t *testing.T) {
	for _, b := range append(sample.Lists(), sample.Bytes(100000)) {
		if got, want := seal.Put(b), sealed(b); !bytes.Equal(got, want) {
			t.Fatalf("Put(%v): %v, want %v", b, got, want)
		}
	}
}

func TestP5_1Get(t *testing.T) {
	for _, b := range append(sample.Lists(), sample.Bytes(100000)) {
		if got, e := seal.Get(sealed(b)); !bytes.Equal(got, b) || e != api.OK {
			t.Fatalf("Get(%v): %v, %v, want %v", sealed(b), got, e, b)
		}
	}
}

func TestP5_1GetOfFewerThanFourBytes(t *testing.T) {
	for _, b := range [][]byte{nil, {}, {0}, {255}, {0, 0}, {1, 2}, {0, 0, 0}, {1, 2, 3}, {255, 255, 255}} {
		refused(t, b, api.ErrShort)
	}
	for have := range 4 {
		// What lies in the room behind the end is no part of the list.
		refused(t, make([]byte, 20)[:have], api.ErrShort)
	}
}

func TestP5_1GetOfAnotherSum(t *testing.T) {
	for _, b := range [][]byte{
		{0, 0, 0, 1},
		{1, 0, 0, 0},
		{1, 2, 3, 4},
		{255, 255, 255, 255},
		{0, 0, 0, 0, 0},
		{1, 0, 0, 0, 0},
		{0xd2, 0x02, 0xef, 0x8d, 0}, // behind their byte, not ahead of it
		{0, 0xd2, 0x02, 0xef, 0x8d}, // the highest byte first
		slices.Concat([]byte("123456789"), []byte{0xcb, 0xf4, 0x39, 0x26}),
		slices.Concat([]byte("12345678"), []byte{0x26, 0x39, 0xf4, 0xcb}),
		[]byte("123456789"),
		make([]byte, 16),
		make([]byte, 1000),
	} {
		refused(t, b, api.ErrSum)
	}
}

func TestP5_1GetOfBytesLeftOutOrMore(t *testing.T) {
	b := sealed(sample.Bytes(12))
	for cut := 1; cut <= len(b)-4; cut++ {
		refused(t, b[:len(b)-cut], api.ErrSum)
		refused(t, b[cut:], api.ErrSum)
	}
	refused(t, append(bytes.Clone(b), 0), api.ErrSum)
	refused(t, append([]byte{0}, b...), api.ErrSum)
}

func TestP5_1BytesAndTheRoomBehindThemStayAsTheyWere(t *testing.T) {
	for used := range 20 {
		room := sample.Bytes(40)
		seal.Put(room[:used])
		seal.Get(room[:used])
		if want := sample.Bytes(40); !bytes.Equal(room, want) {
			t.Errorf("of %d bytes, the bytes and the room behind them: %v, were %v", used, room, want)
		}
		room = append(sealed(room[:used]), 1, 2, 3, 4, 5)
		was := bytes.Clone(room)
		if _, e := seal.Get(room[:used+4]); e != api.OK {
			t.Fatalf("Get of %d bytes with their sum: %v", used, e)
		}
		if !bytes.Equal(room, was) {
			t.Errorf("of %d bytes with their sum, the bytes and the room behind them: %v, were %v", used, room, was)
		}
	}
}

func TestP5_1WhatIsHandedInMayBeChangedBehindTheCall(t *testing.T) {
	for used := range 20 {
		b := sample.Bytes(40)[:used]
		put := seal.Put(b)
		sample.Spoil(b)
		want := sealed(sample.Bytes(40)[:used])
		if !bytes.Equal(put, want) {
			t.Errorf("Put of %d bytes, and they are changed: %v, was %v", used, put, want)
		}
		got, _ := seal.Get(put)
		sample.Spoil(put)
		if want := sample.Bytes(40)[:used]; !bytes.Equal(got, want) {
			t.Errorf("Get of %d bytes, and they are changed: %v, was %v", used, got, want)
		}
	}
}

func TestP5_1AnswersAreNewMemory(t *testing.T) {
	for used := range 20 {
		room := sample.Bytes(40)
		a, b := seal.Put(room[:used]), seal.Put(room[:used])
		sample.Spoil(a)
		if want := sample.Bytes(40); !bytes.Equal(room, want) {
			t.Errorf("Put's answer of %d bytes is changed, and what was handed in is %v", used, room)
		}
		want := sealed(room[:used])
		if !bytes.Equal(b, want) {
			t.Errorf("Put's answer of %d bytes is changed, and another one is %v, was %v", used, b, want)
		}
		one, _ := seal.Get(b)
		two, _ := seal.Get(b)
		sample.Spoil(one)
		if !bytes.Equal(b, want) {
			t.Errorf("Get's answer of %d bytes is changed, and what was handed in is %v, was %v", used, b, want)
		}
		if !bytes.Equal(two, room[:used]) {
			t.Errorf("Get's answer of %d bytes is changed, and another one is %v, was %v", used, two, room[:used])
		}
	}
}

func TestP5_2RecordByExample(t *testing.T) {
	for _, c := range []struct {
		parts
		want api.Sector
	}{
		{parts{0, 0}, api.Sector{12: 0x6f, 0xc6, 0xd5, 0x7b}},
		{parts{7, 9}, api.Sector{3: 7, 11: 9, 12: 0x02, 0x13, 0x68, 0x66}},
		{parts{1, 1}, api.Sector{3: 1, 11: 1, 12: 0xba, 0xe2, 0xa9, 0x1b}},
		{parts{0x01020304, 0x05060708090a0b0c}, api.Sector{1, 2, 3, 4, 5, 6, 7, 8, 9, 10, 11, 12, 0x55, 0xc6, 0x5f, 0x92}},
		{parts{math.MaxUint32, math.MaxUint64}, api.Sector(append(bytes.Repeat([]byte{255}, 12), 0x8a, 0xff, 0x99, 0xbb))},
	} {
		if got := seal.Record(c.n, c.payload); got != c.want {
			t.Errorf("Record(%d, %d): %v, want %v", c.n, c.payload, got, c.want)
		}
	}
}

func TestP5_2Record(t *testing.T) {
	for _, p := range all() {
		if got, want := seal.Record(p.n, p.payload), recorded(p.n, p.payload); got != want {
			t.Fatalf("Record(%d, %d): %v, want %v", p.n, p.payload, got, want)
		}
	}
}

func TestP5_2Open(t *testing.T) {
	for _, p := range all() {
		s := recorded(p.n, p.payload)
		if n, payload, ok := seal.Open(s); n != p.n || payload != p.payload || !ok {
			t.Fatalf("Open(%v): %d, %d, %v, want %d, %d, true", s, n, payload, ok, p.n, p.payload)
		}
	}
}

func TestP5_2OpenOfNoRecord(t *testing.T) {
	good := recorded(7, 9)
	for _, s := range []api.Sector{
		{},
		{0: 1},
		{15: 1},
		api.Sector(bytes.Repeat([]byte{255}, 16)),
		api.Sector(sample.Bytes(16)),
		api.Sector([]byte("0123456789abcdef")),
		// Of good, the sum is another one's, is missing, and has its highest byte first.
		api.Sector(slices.Concat(good[:12], sealed([]byte{1})[1:])),
		api.Sector(slices.Concat(good[:12], make([]byte, 4))),
		api.Sector(slices.Concat(good[:12], []byte{good[15], good[14], good[13], good[12]})),
		// The sum, and then what it is of.
		api.Sector(slices.Concat(good[12:], good[:12])),
	} {
		noRecord(t, s)
	}
}

// Of all sums that could stand behind twelve bytes, one alone makes them a record.
func TestP5_2OpenOfOtherSums(t *testing.T) {
	for _, p := range []parts{{0, 0}, {7, 9}, {math.MaxUint32, math.MaxUint64}} {
		good := recorded(p.n, p.payload)
		for turn := 1; turn < 1<<16; turn++ {
			for _, at := range []int{12, 13, 14} {
				s := good
				s[at] ^= byte(turn)
				s[at+1] ^= byte(turn >> 8)
				noRecord(t, s)
			}
		}
	}
}

func TestP5_3WhatWasSealedIsGot(t *testing.T) {
	for _, b := range append(sample.Lists(), sample.Bytes(100000)) {
		if got, e := seal.Get(seal.Put(b)); !bytes.Equal(got, b) || e != api.OK {
			t.Fatalf("Get of Put(%v): %v, %v", b, got, e)
		}
	}
	for _, p := range all() {
		if n, payload, ok := seal.Open(seal.Record(p.n, p.payload)); n != p.n || payload != p.payload || !ok {
			t.Fatalf("Open of Record(%d, %d): %d, %d, %v", p.n, p.payload, n, payload, ok)
		}
	}
}

func TestP5_3WhatWasSealedTwiceIsGotTwice(t *testing.T) {
	for _, b := range sample.Lists() {
		once, e := seal.Get(seal.Put(seal.Put(b)))
		twice, e2 := seal.Get(once)
		if !bytes.Equal(twice, b) || e != api.OK || e2 != api.OK {
			t.Fatalf("Get of Get of Put of Put(%v): %v, %v, %v", b, twice, e, e2)
		}
	}
}

func TestP5_3OneByteTurned(t *testing.T) {
	for _, b := range [][]byte{nil, {0}, {255}, []byte("abc"), []byte("1234"), []byte("12345"), sample.Bytes(40)} {
		list := seal.Put(b)
		for place := range list {
			for turn := 1; turn < 256; turn++ {
				refused(t, sample.Turned(list, place, uint32(turn)), api.ErrSum)
			}
		}
	}
}

func TestP5_3SomeBytesWithinFourTurned(t *testing.T) {
	for _, b := range sample.Lists() {
		for other := range sample.Others(seal.Put(b)) {
			refused(t, other, api.ErrSum)
		}
	}
}

// The border is where the bytes end and their sum begins: some of the turned are ahead of it, some behind.
func TestP5_3TwoBytesOverTheBorderTurned(t *testing.T) {
	for _, b := range [][]byte{{0}, []byte("abc"), sample.Bytes(12)} {
		list := seal.Put(b)
		for turn := range 1 << 16 {
			if turn != 0 {
				refused(t, sample.Turned(list, len(b)-1, uint32(turn)), api.ErrSum)
			}
		}
	}
}

func TestP5_3ARecordWithOneByteTurned(t *testing.T) {
	for _, p := range []parts{{0, 0}, {1, 1}, {7, 9}, {0x01020304, 0x05060708090a0b0c}, {math.MaxUint32, math.MaxUint64}} {
		good := seal.Record(p.n, p.payload)
		for place := range good {
			for turn := 1; turn < 256; turn++ {
				s := good
				s[place] ^= byte(turn)
				noRecord(t, s)
			}
		}
	}
}

func TestP5_3ARecordWithSomeBytesWithinFourTurned(t *testing.T) {
	for _, p := range all()[:200] {
		good := seal.Record(p.n, p.payload)
		for other := range sample.Others(good[:]) {
			noRecord(t, api.Sector(other))
		}
	}
}

func TestP5_3ASectorOfNoughtsIsNoRecord(t *testing.T) {
	noRecord(t, api.Sector{})
	if got := seal.Record(0, 0); got == (api.Sector{}) {
		t.Errorf("Record(0, 0): noughts alone")
	}
}
