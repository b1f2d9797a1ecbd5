// Package bits is layer 1: sets of the numbers 0 to 63, one bit each of a word. See shared/doc/01-bits.md.
package bits

import (
	"iter"
	"slices"
)

// size: how many numbers there are, 0 to 63.
const size = 64

// One: the set of n alone.
func One(n int) uint64 {
	// A shift by a number below 0 would panic.
	if n < 0 || n >= size {
		return 0
	}
	return uint64(1) << n
}

// Has: is n in the set?
func Has(set uint64, n int) bool { return set&One(n) != 0 }

// With: the set with n.
func With(set uint64, n int) uint64 { return set | One(n) }

// Without: the set without n.
func Without(set uint64, n int) uint64 { return set &^ One(n) }

// Count: how many numbers the set has.
func Count(set uint64) int {
	// Each mask keeps the lower half of every field, whose counts are added to those of the upper half: fields of 1, 2, .. 32 bits.
	masks := [6]uint64{
		0x5555555555555555,
		0x3333333333333333,
		0x0f0f0f0f0f0f0f0f,
		0x00ff00ff00ff00ff,
		0x0000ffff0000ffff,
		0x00000000ffffffff,
	}
	for i, mask := range masks {
		half := 1 << i
		set = set&mask + set>>half&mask
	}
	return int(set)
}

// Lowest: the least number of the set, if there is one.
func Lowest(set uint64) (int, bool) {
	if set == 0 {
		return 0, false
	}
	// As many numbers lie below the least one as it tells; set-1 has just these anew.
	return Count((set - 1) &^ set), true
}

// List: all numbers of the set, rising.
func List(set uint64) []int {
	list := make([]int, 0, Count(set))
	for n := range members(set) {
		list = append(list, n)
	}
	return list
}

// Of: the set of all numbers of l that may be in one.
func Of(l []int) uint64 {
	var set uint64
	for n := range slices.Values(l) {
		set = With(set, n)
	}
	return set
}

// Row: the set of n numbers, from from on, as far as there are such.
func Row(from, n int) uint64 {
	if n < 1 || from < 0 || from >= size {
		return 0
	}
	// The room is asked for by a difference: from+n could wrap.
	n = min(n, size-from)
	return ^uint64(0) >> (size - n) << from
}

// members tells the set's numbers, rising.
func members(set uint64) iter.Seq[int] {
	return func(yield func(int) bool) {
		// A copy is worn down, not the set itself, so that it may be gone over again.
		for left := set; left != 0; left &= left - 1 {
			n, _ := Lowest(left)
			if !yield(n) {
				return
			}
		}
	}
}
