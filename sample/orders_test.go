package sample_test

import (
	"slices"
	"testing"

	"twain/sample"
)

func TestOrders(t *testing.T) {
	for n, want := range []int{1, 1, 2, 6, 24, 120} {
		all := sample.Orders(n)
		slices.SortFunc(all, slices.Compare[[]int])
		all = slices.CompactFunc(all, slices.Equal[[]int])
		if len(all) != want {
			t.Errorf("Orders(%d): %d of them differ, want %d", n, len(all), want)
		}
		for _, order := range all {
			slices.Sort(order)
			if len(order) != n || n > 0 && (order[0] != 0 || order[n-1] != n-1 || len(slices.Compact(order)) != n) {
				t.Errorf("Orders(%d): %v is none", n, order)
			}
		}
	}
	if got := sample.Orders(-1); len(got) != 1 || len(got[0]) != 0 {
		t.Errorf("Orders(-1): %v", got)
	}
}

// Each way has the whole list, in new memory, and each of them another order.
func TestWaysThrough(t *testing.T) {
	ways := sample.WaysThrough[int]()
	for n := range 40 {
		list := make([]int, n)
		for i := range list {
			list[i] = i
		}
		was := slices.Clone(list)
		for name, way := range ways {
			got := way(list)
			for other, second := range ways {
				if n > 3 && other != name && slices.Equal(second(list), got) {
					t.Errorf("%s and %s of %v are the same: %v", name, other, list, got)
				}
			}
			if !slices.Equal(way(list), got) {
				t.Errorf("%s of %v: %v, then another one", name, list, got)
			}
			slices.Sort(got)
			if !slices.Equal(got, was) {
				t.Errorf("%s of %v: it has %v", name, was, got)
			}
			for i := range got {
				got[i] = -1
			}
			if !slices.Equal(list, was) {
				t.Fatalf("%s of %v: the list became %v", name, was, list)
			}
		}
	}
	five := []int{1, 2, 3, 4, 5}
	if rising, falling, inward := ways["rising"](five), ways["falling"](five), ways["inward"](five); !slices.Equal(rising, five) || !slices.Equal(falling, []int{5, 4, 3, 2, 1}) || !slices.Equal(inward, []int{1, 5, 2, 4, 3}) {
		t.Errorf("rising %v, falling %v, inward %v", rising, falling, inward)
	}
}

// All rows up to each length, none twice, and none shares memory with another.
func TestRows(t *testing.T) {
	for most, want := range []int{1, 4, 13, 40, 121} {
		all := sample.Rows([]int{1, 2, 3}, most)
		met := map[int]int{}
		for _, row := range all {
			number := 0
			for _, n := range row {
				number = 4*number + n
			}
			met[number]++
			if len(row) > most || met[number] > 1 {
				t.Errorf("Rows of three, %d at most: %v, %d times", most, row, met[number])
			}
			sample.Spoil(row)
		}
		if len(all) != want {
			t.Errorf("Rows of three, %d at most: %d, want %d", most, len(all), want)
		}
	}
	if got := sample.Rows([]int{5, 4}, 2); len(got) != 7 || !slices.Equal(slices.Concat(got...), []int{5, 4, 5, 5, 5, 4, 4, 5, 4, 4}) {
		t.Errorf("Rows of 5 and 4, two at most: %v", got)
	}
	for _, got := range [][][]int{sample.Rows([]int{1}, 0), sample.Rows([]int{1}, -1), sample.Rows[int](nil, 3)} {
		if len(got) != 1 || len(got[0]) != 0 {
			t.Errorf("Rows of nothing: %v", got)
		}
	}
}

// All rows of each length are done, each on a new thing, and none twice.
func TestAllRuns(t *testing.T) {
	for length, want := range []int{1, 3, 9, 27, 81} {
		var done []*[]int
		step := func(n int) func(*[]int) { return func(row *[]int) { *row = append(*row, n) } }
		sample.AllRuns(length, func() *[]int { done = append(done, new([]int)); return done[len(done)-1] }, []func(*[]int){step(0), step(1), step(2)})
		met := map[int]int{}
		for _, row := range done {
			number := 0
			for _, n := range *row {
				number = 3*number + n
			}
			met[number]++
			if len(*row) != length || met[number] > 1 {
				t.Errorf("length %d: %v, %d times", length, *row, met[number])
			}
		}
		if len(done) != want {
			t.Errorf("length %d: %d rows, want %d", length, len(done), want)
		}
	}
}
