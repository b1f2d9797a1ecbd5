// Package sample has inputs that the tests of several layers try. No layer calls it.
package sample

import "math"

// Words: the ends, each bit alone, each missing alone, and many words of no pattern; the same ones at each call.
func Words() []uint64 {
	all := []uint64{0, math.MaxUint64}
	for n := range 64 {
		all = append(all, uint64(1)<<n, ^(uint64(1) << n))
	}
	return append(all, mixed(2000)...)
}

// Bytes: n bytes of no pattern; the same ones at each call.
func Bytes(n int) []byte {
	list := make([]byte, n)
	for i, x := range mixed(n) {
		list[i] = byte(x >> 32)
	}
	return list
}

// mixed: n words of no pattern. No source of chance is needed: any row of words that mixes all bits will do.
func mixed(n int) []uint64 {
	list := make([]uint64, n)
	x := uint64(0x9e3779b97f4a7c15)
	for i := range list {
		x ^= x << 13
		x ^= x >> 7
		x ^= x << 17
		list[i] = x
	}
	return list
}
