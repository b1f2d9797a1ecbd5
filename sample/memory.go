package sample

import "slices"

// Spoil: all of the list, and of the room behind its end, becomes 77. What shares memory with it shows that.
func Spoil[T byte | int](list []T) {
	list = list[:cap(list)]
	for i := range list {
		list[i] = 77
	}
}

// WithRoom: the list, with room behind its end in which the thing stands so many times, and the whole memory.
func WithRoom[T any](list []T, thing T, room int) ([]T, []T) {
	memory := append(slices.Clone(list), slices.Repeat([]T{thing}, room)...)
	return memory[:len(list)], memory
}
