// Package sample has what the tests of several layers need: inputs that they try, orders and runs to try them in, whether memory is shared, messages, requests and settings, disks, whether two disks are alike, and the rings and extents on them by plain words. No layer calls it.
package sample

import (
	"bytes"
	"iter"
	"math"
	"slices"

	"twain/api"
)

// Words: the ends, each bit alone, each missing alone, and many words of no pattern; the same ones at each call.
func Words() []uint64 {
	all := []uint64{0, math.MaxUint64}
	for n := range 64 {
		all = append(all, uint64(1)<<n, ^(uint64(1) << n))
	}
	return append(all, mixed(2000)...)
}

// FewWords: the ends, one bit at either end, and words all of whose bytes are unlike.
func FewWords() []uint64 {
	return []uint64{0, 1, 1 << 63, math.MaxUint64, 0x0102030405060708, 0xf1e2d3c4b5a69788}
}

// Ends: both ends of an int, and what looks like a small number by its low bits alone.
func Ends() []int {
	return []int{math.MinInt, math.MinInt + 1, math.MinInt + 2, math.MinInt32, 1 - 1<<32, math.MaxInt32, 1 << 31, 1 << 32, 1<<32 + 1, 1<<32 + 2, math.MaxInt - 1, math.MaxInt}
}

// Tickets: tickets at both ends, at the borders of 32 bits, and with the same low bits as others; they rise.
func Tickets() []int {
	return []int{1, 2, 1 << 24, 1<<24 + 1, math.MaxInt32, 1 << 31, math.MaxUint32, 1 << 32, 1<<32 + 1, 1<<32 + 2, 1 << 62, math.MaxInt - 1, math.MaxInt}
}

// NoTickets: numbers that are no tickets, by a little, and at the end of an int.
func NoTickets() []int {
	return []int{0, -1, -2, -api.MaxTable, math.MinInt32, -1 << 32, math.MinInt + 1, math.MinInt}
}

// Kinds: the kinds of requests; they rise.
func Kinds() []int { return []int{api.Read, api.Write, api.Flush} }

// NoKinds: numbers of no kind of requests, by a little, with a kind's low bits, and at the ends of an int.
func NoKinds() []int {
	return append([]int{-1, -2, -3, 3, 4, 5, 255, 256, 257, 258, math.MinInt32 + 1}, Ends()...)
}

// NoExtents: numbers of no extent, and of no set: next to the edges, at multiples of what a word, or an extent, has, and at the ends of an int; they rise.
func NoExtents() []int {
	return []int{math.MinInt, math.MinInt + 1, math.MinInt32, -65, -64, -63, -4, -2, -1, 64, 65, 127, 128, 253, 254, 255, 256, 1024, math.MaxInt32, 1 << 32, 1<<32 + 1, 1 << 60, 1 << 61, 1 << 62, 1<<62 + 1, math.MaxInt - 1, math.MaxInt}
}

// NoNodes: numbers of no node, by a little, as a sum or a difference of nodes, and at the ends of an int.
func NoNodes() []int {
	return append([]int{-3, -2, -1, 2, 3, 4, 255, 256, 257}, Ends()...)
}

// Members: the set's numbers, rising, found by asking each bit of the word.
func Members(set uint64) []int {
	var list []int
	for n := range 64 {
		if set>>n&1 == 1 {
			list = append(list, n)
		}
	}
	return list
}

// Without: the set without that number, number by number.
func Without(set uint64, number int) uint64 {
	var left uint64
	for _, n := range Members(set) {
		if n != number {
			left |= 1 << n
		}
	}
	return left
}

// Union: the extents of both sets all of whose four sectors a data area of so many has; each is asked for, one by one.
func Union(mine, theirs uint64, sectors int) uint64 {
	var set uint64
	bit := uint64(1)
	for last := 3; last < 256; last += 4 {
		if last < sectors && (mine&bit != 0 || theirs&bit != 0) {
			set += bit
		}
		bit *= 2
	}
	return set
}

// Bytes: n bytes of no pattern; the same ones at each call.
func Bytes(n int) []byte {
	list := make([]byte, n)
	for i, x := range mixed(n) {
		list[i] = byte(x >> 32)
	}
	return list
}

// HighestFirst: the size lowest bytes of n, the highest first, by division alone.
func HighestFirst(n uint64, size int) []byte {
	list := make([]byte, size)
	for i := range list {
		list[size-1-i] = byte(n % 256)
		n /= 256
	}
	return list
}

// Number: the number of those bytes, the highest first, by multiplication alone.
func Number(b []byte) uint64 {
	var n uint64
	for _, x := range b {
		n = n*256 + uint64(x)
	}
	return n
}

// Lists: none, few and many bytes, all 0, all 255, and of no pattern.
func Lists() [][]byte {
	all := [][]byte{nil, {}, []byte("123456789"), {1}, {127}, {128}}
	for _, size := range []int{1, 2, 3, 4, 5, 8, 9, 16, 31, 64, 100, 512} {
		all = append(all, Sorts(size)...)
	}
	return all
}

// Sorts: so many bytes, all 0, all 255, and of no pattern.
func Sorts(size int) [][]byte {
	return [][]byte{make([]byte, size), bytes.Repeat([]byte{255}, size), Bytes(size)}
}

// Turned: b with the bits of mask turned in the four bytes from place on, as far as there are such.
func Turned(b []byte, place int, mask uint32) []byte {
	b = bytes.Clone(b)
	for i := place; i < min(place+4, len(b)); i++ {
		b[i] ^= byte(mask)
		mask >>= 8
	}
	return b
}

// Others: b with some bytes within four side by side turned, at its beginning, within and at its end, each time others.
func Others(b []byte) iter.Seq[[]byte] { return othersAt(b, places(len(b))) }

// OthersEverywhere: as Others, but turned at each place.
func OthersEverywhere(b []byte) iter.Seq[[]byte] {
	var all []int
	for place := range b {
		all = append(all, place)
	}
	return othersAt(b, all)
}

// othersAt: b with some bytes turned, within four from each of the places on, each time others.
func othersAt(b []byte, places []int) iter.Seq[[]byte] {
	return func(yield func([]byte) bool) {
		for _, place := range places {
			for _, mask := range masks() {
				if other := Turned(b, place, mask); !bytes.Equal(other, b) && !yield(other) {
					return
				}
			}
		}
	}
}

// Rank: how many of the words are no xor of others of them.
func Rank(words []uint32) int {
	words = slices.Clone(words)
	n := 0
	for bit := uint32(1 << 31); bit != 0; bit /= 2 {
		at := slices.IndexFunc(words[n:], func(w uint32) bool { return w&bit != 0 })
		if at < 0 {
			continue
		}
		words[n], words[n+at] = words[n+at], words[n]
		for i := n + 1; i < len(words); i++ {
			if words[i]&bit != 0 {
				words[i] ^= words[n]
			}
		}
		n++
	}
	return n
}

// places: where bytes are turned in a list of that size. All of the last eight are among them: four may be a sum, and then four over its border are turned, too.
func places(size int) []int {
	var list []int
	for place := range size {
		if place < 4 || place == size/2 || place >= size-8 {
			list = append(list, place)
		}
	}
	return list
}

// masks: which bits are turned, in one byte, and in two, three and four side by side.
func masks() []uint32 {
	list := []uint32{0xff, 0xff00, 0xffff, 0xff0000, 0xff00ff, 0xffffff, 0xff0000ff, 0xff00ff00, 0xffffffff, 0x80000001, 0xedb88320}
	for _, n := range Words()[:300] {
		list = append(list, uint32(n)&0xff, uint32(n)&0xffff, uint32(n)&0xffffff, uint32(n))
	}
	return list
}

// mixed: n words of no pattern. No source of chance is needed: any row of words that mixes all bits will do.
func mixed(n int) []uint64 {
	list := make([]uint64, n)
	x := uint64(0x9e3779b97f4a7c15)
	for i := range list {
		x ^= x << 13
		x ^= x >> 7
		x ^= x << 17
		list[i] = x
	}
	return list
}
