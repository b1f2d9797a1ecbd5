package crc_test

import (
	"bytes"
	"hash/crc32"
	"math"
	"slices"
	"testing"

	"twain/crc"
	"twain/sample"
)

// turn is what is xored to a half that was odd.
const turn = 3988292384

// stepped: Step by the chapter's words, halving by halving.
func stepped(x uint32, c byte) uint32 {
	x ^= uint32(c)
	for range 8 {
		odd := x%2 == 1
		x /= 2
		if odd {
			x ^= turn
		}
	}
	return x
}

// summed: Sum by the chapter's words.
func summed(b []byte) uint32 {
	x := uint32(math.MaxUint32)
	for _, c := range b {
		x = stepped(x, c)
	}
	return x ^ math.MaxUint32
}

// having: four bytes that have the sum, found by going back from it, halving by halving.
func having(sum uint32) []byte {
	x := sum ^ math.MaxUint32
	for range 32 {
		// A half is below 2^31, and turn is not: what is greater was odd.
		if x >= 1<<31 {
			x = (x^turn)*2 + 1
		} else {
			x *= 2
		}
	}
	x ^= math.MaxUint32
	return []byte{byte(x), byte(x >> 8), byte(x >> 16), byte(x >> 24)}
}

// numbers: samples of 32 bits, and their ends and those beside them.
func numbers() []uint32 {
	list := []uint32{0, 1, 2, 3, 1<<31 - 1, 1 << 31, 1<<31 + 1, math.MaxUint32 - 1, math.MaxUint32, turn, turn + 1}
	for _, n := range sample.Words() {
		list = append(list, uint32(n), uint32(n>>32))
	}
	return list
}

func TestP3_1Step(t *testing.T) {
	for _, x := range numbers() {
		for c := range 256 {
			if got, want := crc.Step(x, byte(c)), stepped(x, byte(c)); got != want {
				t.Fatalf("Step(%d, %d): %d, want %d", x, c, got, want)
			}
		}
	}
}

func TestP3_1StepByExample(t *testing.T) {
	for _, c := range []struct {
		x    uint32
		c    byte
		want uint32
	}{
		{0, 0, 0},
		{0, 1, 0x77073096},
		{0, 127, 0xc0ba6cad},
		{0, 128, turn},
		{0, 255, 0x2d02ef8d},
		{1, 0, 0x77073096},
		{1, 1, 0},
		{255, 255, 0},
		{256, 0, 1},
		{256, 128, turn + 1},
		{256, 255, 0x2d02ef8c},
		{math.MaxUint32, 0, 0x2dfd1072},
		{math.MaxUint32, 255, 0x00ffffff},
		{math.MaxUint32 - 1, 254, 0x00ffffff},
		{1 << 31, 0, 1 << 23},
	} {
		if got := crc.Step(c.x, c.c); got != c.want {
			t.Errorf("Step(%#x, %d): %#x, want %#x", c.x, c.c, got, c.want)
		}
	}
}

func TestP3_1SumByExample(t *testing.T) {
	for _, c := range []struct {
		b    []byte
		want uint32
	}{
		{[]byte("123456789"), 3421780262},
		{nil, 0},
		{[]byte{}, 0},
		{[]byte("a"), 0xe8b7be43},
		{[]byte{0}, 0xd202ef8d},
		{[]byte{255}, 0xff000000},
		{make([]byte, 4), 0x2144df1c},
		{bytes.Repeat([]byte{255}, 4), math.MaxUint32},
		{make([]byte, 32), 0x190a55ad},
		{bytes.Repeat([]byte{255}, 32), 0xff6cab0b},
	} {
		if got := crc.Sum(c.b); got != c.want {
			t.Errorf("Sum(%v): %#x, want %#x", c.b, got, c.want)
		}
	}
}

func TestP3_1Sum(t *testing.T) {
	for _, b := range sample.Lists() {
		got := crc.Sum(b)
		if want := summed(b); got != want {
			t.Errorf("Sum(%v): %d, want %d", b, got, want)
		}
		if want := crc32.ChecksumIEEE(b); got != want {
			t.Errorf("Sum(%v): %d, and Ethernet's is %d", b, got, want)
		}
	}
}

func TestP3_1SumIsOfTheListAlone(t *testing.T) {
	for have := range 20 {
		// What lies in the room behind the end is no part of the list.
		b := sample.Bytes(40)[:have]
		if got, want := crc.Sum(b), crc.Sum(slices.Clip(bytes.Clone(b))); got != want {
			t.Errorf("Sum of %d bytes with room behind them: %d, and without: %d", have, got, want)
		}
	}
}

func TestP3_1More(t *testing.T) {
	for _, sum := range numbers() {
		ahead := having(sum)
		if got := summed(ahead); got != sum {
			t.Fatalf("%v were to have the sum %d, and have %d", ahead, sum, got)
		}
		for _, b := range [][]byte{nil, {}, {0}, {1}, {128}, {255}, sample.Bytes(7), []byte("123456789")} {
			if got, want := crc.More(sum, b), summed(slices.Concat(ahead, b)); got != want {
				t.Fatalf("More(%d, %v): %d, want %d", sum, b, got, want)
			}
		}
	}
}

func TestP3_1MoreByExample(t *testing.T) {
	for _, c := range []struct {
		sum  uint32
		b    []byte
		want uint32
	}{
		{0, nil, 0},
		{0, []byte{}, 0},
		{7, nil, 7},
		{math.MaxUint32, []byte{}, math.MaxUint32},
		{0, []byte("123456789"), 3421780262},
		{crc.Sum(nil), []byte("123456789"), 3421780262},
		{crc.Sum([]byte("1")), []byte("23456789"), 3421780262},
		{crc.Sum([]byte("12345678")), []byte("9"), 3421780262},
		{crc.Sum([]byte("123456789")), nil, 3421780262},
		{math.MaxUint32, []byte{0}, math.MaxUint32},
	} {
		if got := crc.More(c.sum, c.b); got != c.want {
			t.Errorf("More(%d, %v): %d, want %d", c.sum, c.b, got, c.want)
		}
	}
}

func TestP3_1BytesStayAsTheyWere(t *testing.T) {
	for used := range 20 {
		room := sample.Bytes(30)
		crc.Sum(room[:used])
		crc.More(12345, room[:used])
		if want := sample.Bytes(30); !bytes.Equal(room, want) {
			t.Errorf("of %d bytes, the bytes and the room behind them: %v, were %v", used, room, want)
		}
	}
}

func TestP3_2ASumGoesOnFromAnyPlace(t *testing.T) {
	for _, b := range sample.Lists() {
		want := crc.Sum(b)
		for cut := range len(b) + 1 {
			if got := crc.More(crc.Sum(b[:cut]), b[cut:]); got != want {
				t.Fatalf("the sum of %v, cut at %d: %d, want %d", b, cut, got, want)
			}
		}
	}
}

func TestP3_2ASumGoesOnFromAnySum(t *testing.T) {
	b := sample.Bytes(20)
	for _, sum := range numbers() {
		want := crc.More(sum, b)
		for cut := range len(b) + 1 {
			if got := crc.More(crc.More(sum, b[:cut]), b[cut:]); got != want {
				t.Fatalf("on from %d by %v, cut at %d: %d, want %d", sum, b, cut, got, want)
			}
		}
	}
}

func TestP3_2ASumGoesOnByteByByte(t *testing.T) {
	for _, b := range sample.Lists() {
		sum := crc.Sum(nil)
		for i := range b {
			sum = crc.More(sum, b[i:i+1])
		}
		if want := crc.Sum(b); sum != want {
			t.Errorf("byte by byte the sum of %v: %d, want %d", b, sum, want)
		}
	}
}

func TestP3_2OtherBytesHaveAnotherSum(t *testing.T) {
	for _, b := range sample.Lists() {
		was := crc.Sum(b)
		for other := range sample.Others(b) {
			if crc.Sum(other) == was {
				t.Fatalf("%v, and %v, of which some within four are other ones: both have the sum %d", b, other, was)
			}
		}
	}
}

func TestP3_2AllListsOfTwoBytesHaveSumsOfTheirOwn(t *testing.T) {
	for _, ahead := range [][]byte{nil, {7}, sample.Bytes(50)} {
		for _, behind := range [][]byte{nil, {7}, sample.Bytes(50)} {
			sums := map[uint32]bool{}
			for n := range 1 << 16 {
				sums[crc.Sum(slices.Concat(ahead, []byte{byte(n >> 8), byte(n)}, behind))] = true
			}
			if len(sums) != 1<<16 {
				t.Errorf("two bytes, behind %d and ahead of %d others, have but %d sums", len(ahead), len(behind), len(sums))
			}
		}
	}
}

// By what a sum is another one when bits are turned is the xor of that of each bit alone. Where no xor of some of the 32 bits of four bytes is 0, no other four bytes can have the same sum.
func TestP3_2NoOtherFourBytesHaveTheSameSum(t *testing.T) {
	for _, size := range []int{4, 5, 8, 64, 512} {
		b := sample.Bytes(size)
		for place := range size - 3 {
			words := make([]uint32, 32)
			for bit := range words {
				words[bit] = crc.Sum(b) ^ crc.Sum(sample.Turned(b, place, 1<<bit))
			}
			if mask := uint32(turn); crc.Sum(b)^crc.Sum(sample.Turned(b, place, mask)) != xored(words, mask) {
				t.Fatalf("of %d bytes, those from %d on turned by %#x: the sum is not turned by each bit alone", size, place, mask)
			}
			if got := sample.Rank(words); got != 32 {
				t.Fatalf("of %d bytes, those from %d on: the 32 bits turn a sum in %d ways that are no xor of others", size, place, got)
			}
		}
	}
}

// xored: the xor of the words whose bits are in the mask.
func xored(words []uint32, mask uint32) uint32 {
	var x uint32
	for bit, w := range words {
		if mask>>bit%2 == 1 {
			x ^= w
		}
	}
	return x
}
