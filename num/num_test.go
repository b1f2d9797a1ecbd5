package num_test

import (
	"bytes"
	"math"
	"testing"

	"twain/num"
	"twain/sample"
)

const (
	perBoot  = 1 << 24
	greatest = 1<<56 - 1
)

// wide: samples, those next to the ends of all kinds, and those whose bytes are all unlike.
func wide() []uint64 {
	return append(sample.Words(), 255, 258, 1<<16-1, 1<<31-1, 1<<32-1, 1<<63-1, 0x0102030405060708, 0xf1e2d3c4b5a69788)
}

// starts: what stands ahead of a number that is put.
func starts() [][]byte {
	return [][]byte{nil, {}, {0}, {255}, {1, 2, 3}, bytes.Repeat([]byte{9, 0, 255}, 100)}
}

// putter is one of the three, by how many bytes it puts.
type putter struct {
	name string
	size int
	put  func(b []byte, n uint64) []byte
}

func putters() []putter {
	return []putter{
		{"Put16", 2, func(b []byte, n uint64) []byte { return num.Put16(b, int(n)) }},
		{"Put32", 4, func(b []byte, n uint64) []byte { return num.Put32(b, uint32(n)) }},
		{"Put64", 8, num.Put64},
	}
}

// getter is one of the three, by how many bytes it gets.
type getter struct {
	name string
	size int
	get  func(b []byte) (uint64, bool)
}

func getters() []getter {
	return []getter{
		{"Get16", 2, func(b []byte) (uint64, bool) { n, ok := num.Get16(b); return uint64(n), ok }},
		{"Get32", 4, func(b []byte) (uint64, bool) { n, ok := num.Get32(b); return uint64(n), ok }},
		{"Get64", 8, num.Get64},
	}
}

func TestP2_1Put(t *testing.T) {
	for _, p := range putters() {
		for _, start := range starts() {
			for _, n := range wide() {
				want := append(bytes.Clone(start), sample.HighestFirst(n, p.size)...)
				if got := p.put(start, n); !bytes.Equal(got, want) {
					t.Fatalf("%s(%v, %#x): %v, want %v", p.name, start, n, got, want)
				}
			}
		}
	}
}

func TestP2_1PutByExample(t *testing.T) {
	for _, c := range []struct {
		what      string
		got, want []byte
	}{
		{"Put16(nil, 258)", num.Put16(nil, 258), []byte{1, 2}},
		{"Put16 behind a byte", num.Put16([]byte{7}, 258), []byte{7, 1, 2}},
		{"Put32", num.Put32(nil, 0x01020304), []byte{1, 2, 3, 4}},
		{"Put64", num.Put64(nil, 0x0102030405060708), []byte{1, 2, 3, 4, 5, 6, 7, 8}},
		{"Put32 of the greatest", num.Put32(nil, math.MaxUint32), []byte{255, 255, 255, 255}},
		{"Put64 of 0", num.Put64([]byte{}, 0), make([]byte, 8)},
	} {
		if !bytes.Equal(c.got, c.want) {
			t.Errorf("%s: %v, want %v", c.what, c.got, c.want)
		}
	}
}

func TestP2_1Put16PutsTheLowestBitsOnly(t *testing.T) {
	for _, c := range []struct {
		n    int
		want []byte
	}{
		{0, []byte{0, 0}},
		{65535, []byte{255, 255}},
		{65536, []byte{0, 0}},
		{65537, []byte{0, 1}},
		{1<<40 + 258, []byte{1, 2}},
		{-1, []byte{255, 255}},
		{-2, []byte{255, 254}},
		{-256, []byte{255, 0}},
		{-32768, []byte{128, 0}},
		{-65535, []byte{0, 1}},
		{-65536, []byte{0, 0}},
		{math.MaxInt, []byte{255, 255}},
		{math.MaxInt32, []byte{255, 255}},
		{math.MinInt, []byte{0, 0}},
		{math.MinInt + 1, []byte{0, 1}},
		{math.MinInt32, []byte{0, 0}},
	} {
		if got := num.Put16(nil, c.n); !bytes.Equal(got, c.want) {
			t.Errorf("Put16(nil, %d): %v, want %v", c.n, got, c.want)
		}
	}
}

func TestP2_1PutLeavesItsBytesAlone(t *testing.T) {
	for _, p := range putters() {
		for used := range 12 {
			room := []byte{10, 11, 12, 13, 14, 15, 16, 17, 18, 19, 20, 21, 22, 23, 24, 25, 26, 27, 28, 29}
			was := bytes.Clone(room)
			p.put(room[:used], 0xf1e2d3c4b5a69788)
			if !bytes.Equal(room, was) {
				t.Errorf("%s behind %d bytes: the bytes and the room behind them: %v, were %v", p.name, used, room, was)
			}
		}
	}
}

func TestP2_1PutAnswersNewMemory(t *testing.T) {
	for _, p := range putters() {
		for used := range 12 {
			room := make([]byte, used, used+20)
			a, b := p.put(room, 1), p.put(room, 2)
			want := bytes.Clone(b)
			sample.Spoil(a)
			if !bytes.Equal(room[:cap(room)], make([]byte, used+20)) {
				t.Errorf("%s behind %d bytes: an answer that is changed shows in what was handed in: %v", p.name, used, room[:cap(room)])
			}
			if !bytes.Equal(b, want) {
				t.Errorf("%s behind %d bytes: an answer that is changed shows in another one: %v, was %v", p.name, used, b, want)
			}
		}
	}
}

func TestP2_1Get(t *testing.T) {
	for _, g := range getters() {
		for _, n := range wide() {
			list := sample.HighestFirst(n, g.size)
			want := n << (64 - 8*g.size) >> (64 - 8*g.size)
			for range 10 { // just as many bytes, then more and more of them
				if got, ok := g.get(list); got != want || !ok {
					t.Fatalf("%s(%v): %#x, %v, want %#x, true", g.name, list, got, ok, want)
				}
				list = append(list, 201)
			}
		}
	}
}

func TestP2_1GetByExample(t *testing.T) {
	list := []byte{129, 2, 3, 4, 5, 6, 7, 8, 9}
	if n, ok := num.Get16(list); n != 0x8102 || !ok {
		t.Errorf("Get16: %#x, %v", n, ok)
	}
	if n, ok := num.Get32(list); n != 0x81020304 || !ok {
		t.Errorf("Get32: %#x, %v", n, ok)
	}
	if n, ok := num.Get64(list); n != 0x8102030405060708 || !ok {
		t.Errorf("Get64: %#x, %v", n, ok)
	}
}

func TestP2_1GetOfFewerBytes(t *testing.T) {
	for _, g := range getters() {
		if n, ok := g.get(nil); n != 0 || ok {
			t.Errorf("%s(nil): %d, %v, want 0, false", g.name, n, ok)
		}
		for have := range g.size {
			// What lies in the room behind the end is no part of the list.
			list := bytes.Repeat([]byte{255}, 20)[:have]
			if n, ok := g.get(list); n != 0 || ok {
				t.Errorf("%s of %d bytes: %d, %v, want 0, false", g.name, have, n, ok)
			}
		}
	}
}

func TestP2_1GetLeavesItsBytesAlone(t *testing.T) {
	for _, g := range getters() {
		for used := range 12 {
			room := []byte{10, 11, 12, 13, 14, 15, 16, 17, 18, 19, 20, 21, 22, 23, 24}
			was := bytes.Clone(room)
			g.get(room[:used])
			if !bytes.Equal(room, was) {
				t.Errorf("%s of %d bytes: the bytes and the room behind them: %v, were %v", g.name, used, room, was)
			}
		}
	}
}

func TestP2_2Small(t *testing.T) {
	for _, n := range wide() {
		want, fits := 0, n < 1<<31
		if fits {
			want = int(n)
		}
		if got, ok := num.Small(n); got != want || ok != fits {
			t.Fatalf("Small(%#x): %d, %v, want %d, %v", n, got, ok, want, fits)
		}
	}
}

func TestP2_2SmallAtTheEdges(t *testing.T) {
	for _, c := range []struct {
		n    uint64
		want int
		ok   bool
	}{
		{0, 0, true},
		{1, 1, true},
		{1<<31 - 2, 2147483646, true},
		{1<<31 - 1, 2147483647, true},
		{1 << 31, 0, false},
		{1<<31 + 1, 0, false},
		{1<<32 - 1, 0, false},
		{1 << 32, 0, false},
		{1<<32 + 5, 0, false},
		{1<<63 - 1, 0, false},
		{1 << 63, 0, false},
		{math.MaxUint64, 0, false},
	} {
		if got, ok := num.Small(c.n); got != c.want || ok != c.ok {
			t.Errorf("Small(%d): %d, %v, want %d, %v", c.n, got, ok, c.want, c.ok)
		}
	}
}

func TestP2_2Ticket(t *testing.T) {
	for _, c := range []struct {
		boot uint32
		n    int
		want int
	}{
		{0, 0, 0},
		{0, 1, 1},
		{0, perBoot - 1, 16777215},
		{1, 0, 16777216},
		{1, 2, 16777218},
		{1, perBoot - 1, 33554431},
		{128, 5, 2147483653},
		{math.MaxInt32, 0, 36028797002186752},
		{1 << 31, 0, 36028797018963968},
		{math.MaxUint32, 0, 72057594021150720},
		{math.MaxUint32, perBoot - 1, greatest},
	} {
		if got, ok := num.Ticket(c.boot, c.n); got != c.want || !ok {
			t.Errorf("Ticket(%d, %d): %d, %v, want %d, true", c.boot, c.n, got, ok, c.want)
		}
	}
}

func TestP2_2TicketThatIsNone(t *testing.T) {
	for _, boot := range []uint32{0, 1, 2, 1 << 31, math.MaxUint32} {
		for _, n := range []int{-1, -2, -perBoot, math.MinInt32, math.MinInt + 1, math.MinInt, perBoot, perBoot + 1, 2 * perBoot, math.MaxInt32, greatest, math.MaxInt - 1, math.MaxInt} {
			if got, ok := num.Ticket(boot, n); got != 0 || ok {
				t.Errorf("Ticket(%d, %d): %d, %v, want 0, false", boot, n, got, ok)
			}
		}
	}
}

func TestP2_2Boot(t *testing.T) {
	for _, c := range []struct {
		ticket int
		boot   uint32
		n      int
	}{
		{0, 0, 0},
		{1, 0, 1},
		{16777215, 0, perBoot - 1},
		{16777216, 1, 0},
		{16777218, 1, 2},
		{33554431, 1, perBoot - 1},
		{2147483653, 128, 5},
		{greatest - perBoot, math.MaxUint32 - 1, perBoot - 1},
		{greatest - 1, math.MaxUint32, perBoot - 2},
		{greatest, math.MaxUint32, perBoot - 1},
	} {
		if boot, n := num.Boot(c.ticket); boot != c.boot || n != c.n {
			t.Errorf("Boot(%d): %d, %d, want %d, %d", c.ticket, boot, n, c.boot, c.n)
		}
	}
}

func TestP2_2BootOfNoTicket(t *testing.T) {
	for _, ticket := range []int{-1, -2, -perBoot, -perBoot - 1, math.MinInt32, -greatest, math.MinInt + 1, math.MinInt, greatest + 1, greatest + 2, greatest + perBoot + 3, math.MaxInt - 1, math.MaxInt} {
		if boot, n := num.Boot(ticket); boot != 0 || n != 0 {
			t.Errorf("Boot(%d): %d, %d, want 0, 0", ticket, boot, n)
		}
	}
}

func TestP2_3WhatWasPutIsGot(t *testing.T) {
	for _, start := range starts() {
		for _, n := range wide() {
			if got, ok := num.Get16(num.Put16(start, int(n))[len(start):]); got != int(uint16(n)) || !ok {
				t.Fatalf("16 bits of %#x: %#x, %v", n, got, ok)
			}
			if got, ok := num.Get32(num.Put32(start, uint32(n))[len(start):]); got != uint32(n) || !ok {
				t.Fatalf("32 bits of %#x: %#x, %v", n, got, ok)
			}
			if got, ok := num.Get64(num.Put64(start, n)[len(start):]); got != n || !ok {
				t.Fatalf("64 bits of %#x: %#x, %v", n, got, ok)
			}
		}
	}
}

func TestP2_3ATicketsPartsComeBack(t *testing.T) {
	for _, x := range wide() {
		boot, n := uint32(x>>32), int(x%perBoot)
		ticket, ok := num.Ticket(boot, n)
		if b, m := num.Boot(ticket); b != boot || m != n || !ok {
			t.Fatalf("Ticket(%d, %d): %d, %v, whose parts are %d, %d", boot, n, ticket, ok, b, m)
		}
		ticket = int(x % (greatest + 1))
		boot, n = num.Boot(ticket)
		if got, ok := num.Ticket(boot, n); got != ticket || !ok {
			t.Fatalf("Boot(%d): %d, %d, whose ticket is %d, %v", ticket, boot, n, got, ok)
		}
	}
}

func TestP2_3TicketsOfALaterBootAreGreater(t *testing.T) {
	for _, boot := range []uint32{0, 1, 2, 127, 128, 1<<24 - 1, 1 << 24, math.MaxInt32 - 1, math.MaxInt32, 1 << 31, math.MaxUint32 - 1} {
		last, _ := num.Ticket(boot, perBoot-1)
		next, ok := num.Ticket(boot+1, 0)
		if next <= last || !ok {
			t.Errorf("the first ticket of boot %d is %d, %v, and the last one of boot %d is %d", boot+1, next, ok, boot, last)
		}
	}
	for n := range 1000 {
		a, _ := num.Ticket(5, n)
		b, _ := num.Ticket(5, n+1)
		if b <= a {
			t.Errorf("of boot 5 the tickets of %d and %d are %d and %d", n, n+1, a, b)
		}
	}
}
