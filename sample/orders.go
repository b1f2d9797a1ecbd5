package sample

import "slices"

// Orders: all orders of the numbers below n.
func Orders(n int) [][]int {
	if n <= 0 {
		return [][]int{nil}
	}
	var all [][]int
	for _, order := range Orders(n - 1) {
		for at := range n {
			all = append(all, slices.Insert(slices.Clone(order), at, n-1))
		}
	}
	return all
}

// WaysThrough: orders in which a list can be gone through, by their names: as it is, the last one first, from both ends in turn, and without a pattern. Each answers a new list.
func WaysThrough[T any]() map[string]func([]T) []T {
	return map[string]func([]T) []T{"rising": slices.Clone[[]T], "falling": Falling[T], "inward": Inward[T], "mixed": Mixed[T]}
}

// Falling: the list, the last one first.
func Falling[T any](list []T) []T {
	list = slices.Clone(list)
	slices.Reverse(list)
	return list
}

// Inward: the list, from both ends in turn.
func Inward[T any](list []T) []T {
	var all []T
	for low, high := 0, len(list)-1; low <= high; low, high = low+1, high-1 {
		all = append(all, list[low])
		if low < high {
			all = append(all, list[high])
		}
	}
	return all
}

// Mixed: the list, in an order without a pattern; the same one at each call.
func Mixed[T any](list []T) []T {
	list = slices.Clone(list)
	for i, w := range mixed(len(list)) {
		j := int(w >> 20 % uint64(i+1))
		list[i], list[j] = list[j], list[i]
	}
	return list
}

// Rows: all rows of none to most of the things, each of them as often as may be.
func Rows[T any](things []T, most int) [][]T {
	all := [][]T{nil}
	for i := 0; i < len(all); i++ {
		for _, x := range things {
			if row := all[i]; len(row) < most {
				all = append(all, append(row[:len(row):len(row)], x))
			}
		}
	}
	return all
}

// AllRuns: each row of length of the steps is done, on a new thing each.
func AllRuns[T any](length int, fresh func() T, steps []func(T)) {
	rows := 1
	for range length {
		rows *= len(steps)
	}
	for i := range rows {
		thing := fresh()
		for range length {
			steps[i%len(steps)](thing)
			i /= len(steps)
		}
	}
}
