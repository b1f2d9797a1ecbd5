package sample_test

import (
	"bytes"
	"slices"
	"testing"

	"twain/sample"
)

func TestSpoil(t *testing.T) {
	memory := []byte{1, 2, 3, 4, 5}
	sample.Spoil(memory[1:2:4])
	if want := []byte{1, 77, 77, 77, 5}; !bytes.Equal(memory, want) {
		t.Errorf("Spoil: %v, want %v", memory, want)
	}
	numbers := []int{-1, 2, 3}
	sample.Spoil(numbers[:1:2])
	if want := []int{77, 77, 3}; !slices.Equal(numbers, want) {
		t.Errorf("Spoil: %v, want %v", numbers, want)
	}
	sample.Spoil[byte](nil)
	sample.Spoil[int](nil)
}

// The list and the whole memory are the same one, and another one than that which was handed in.
func TestWithRoom(t *testing.T) {
	for size := range 5 {
		for room := range 5 {
			list := []int{1, 2, 3, 4}[:size]
			part, memory := sample.WithRoom(list, 9, room)
			if want := append(slices.Clone(list), slices.Repeat([]int{9}, room)...); !slices.Equal(part, list) || !slices.Equal(memory, want) {
				t.Errorf("WithRoom(%v, 9, %d): %v, %v, want %v", list, room, part, memory, want)
			}
			if !slices.Equal(part[:size+room], memory) {
				t.Errorf("WithRoom(%v, 9, %d): in the room is %v", list, room, part[:size+room])
			}
			for i := range part {
				memory[i]++
				if part[i] != memory[i] || part[i] == list[i] {
					t.Errorf("WithRoom(%v, 9, %d): its memory changes, and it is %v", list, room, part)
				}
			}
		}
	}
}
