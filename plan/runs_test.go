package plan_test

import (
	"slices"
	"testing"

	"twain/sample"
)

// overAt: behind how many numbers of the row each extent of the mask was told; more than it has, if one is not.
func overAt(mask uint64, row []int) int {
	many := 0
	for _, e := range sample.Members(mask) {
		at := slices.Index(row, e)
		if at < 0 {
			return len(row) + 1
		}
		many = max(many, at+1)
	}
	return many
}

// plays: the row is told to a new Plan of the mask: it is over just when each was told, not earlier and not later. Is it in the end?
func plays(t *testing.T, mask uint64, row []int) bool {
	t.Helper()
	p, all, over := made(t, mask), sample.Members(mask), overAt(mask, row)
	for i, e := range row {
		if p.Over() != (i >= over) {
			t.Fatalf("of %#x, behind %v: Over %v", mask, row[:i], p.Over())
		}
		if had, want := p.Have(e), slices.Contains(all, e) && !slices.Contains(row[:i], e); had != want {
			t.Fatalf("of %#x, behind %v: Have(%d): %v, want %v", mask, row[:i], e, had, want)
		}
	}
	if p.Over() != (len(row) >= over) || p.Over() != (p.Left() == 0) {
		t.Fatalf("of %#x, behind %v: Over %v, Left %#x", mask, row, p.Over(), p.Left())
	}
	if !slices.Equal(p.All(), all) {
		t.Fatalf("of %#x, behind %v: All %v, want %v", mask, row, p.All(), all)
	}
	return p.Over()
}

// mixedWith: the row, with one of the others ahead of each, in turn, and all of them behind it.
func mixedWith(row, others []int) []int {
	var all []int
	for i, e := range row {
		all = append(all, others[i%len(others)], e)
	}
	return append(all, others...)
}

// All orders of few extents, each once, each twice side by side, with numbers that no set has, and the whole again.
func TestP27_2AllOrders(t *testing.T) {
	for _, few := range [][]int{{}, {0}, {63}, {0, 63}, {3, 4, 5}, {0, 31, 32, 63}, {1, 2, 30, 33, 62}, {0, 1, 2, 3, 4, 5}} {
		var mask uint64
		for _, e := range few {
			mask += 1 << e
		}
		for _, order := range sample.Orders(len(few)) {
			var once, doubled []int
			for _, place := range order {
				once = append(once, few[place])
				doubled = append(doubled, few[place], few[place])
			}
			for _, row := range [][]int{once, doubled, mixedWith(once, sample.NoExtents()), slices.Concat(once, once)} {
				if !plays(t, mask, row) {
					t.Fatalf("of %#x: not over behind %v", mask, row)
				}
			}
		}
	}
}

// Rising, falling, from both ends, without a pattern; with one left out, however often the others come, and then that one.
func TestP27_2WaysThrough(t *testing.T) {
	for name, way := range sample.WaysThrough[int]() {
		for _, mask := range append(masks(), sample.Words()[130:180]...) {
			list, never := way(sample.Members(mask)), append(sample.Members(^mask), 64)
			if !plays(t, mask, list) || !plays(t, mask, mixedWith(list, sample.NoExtents())) || !plays(t, mask, mixedWith(list, never)) {
				t.Fatalf("%s of %#x: not over", name, mask)
			}
			for i, gap := range list {
				if i > 3 && i < len(list)-3 {
					continue
				}
				without := mixedWith(slices.Delete(slices.Clone(list), i, i+1), sample.NoExtents())
				without = slices.Repeat(without, 3)
				if plays(t, mask, without) {
					t.Fatalf("%s of %#x: over without %d", name, mask, gap)
				}
				if !plays(t, mask, append(without, gap)) {
					t.Fatalf("%s of %#x: not over with %d, the last one", name, mask, gap)
				}
			}
		}
	}
}

// All numbers that a set can have, and some that none has, to each mask: those that it never had do no harm.
func TestP27_2AllNumbers(t *testing.T) {
	numbers := sample.NoExtents()
	for e := -3; e < 67; e++ {
		numbers = append(numbers, e)
	}
	for name, way := range sample.WaysThrough[int]() {
		for _, mask := range append(masks(), sample.Words()[:200]...) {
			if !plays(t, mask, way(numbers)) {
				t.Fatalf("%s, of %#x: not over behind all numbers", name, mask)
			}
		}
	}
}

// All rows of numbers about few extents, with Left, Over and All behind each call.
func TestP27_2AllShortRuns(t *testing.T) {
	for _, c := range []struct {
		mask    uint64
		numbers []int
	}{
		{0, []int{0, 1, 63, 64, -1}},
		{5, []int{0, 1, 2, 64, -1}},
		{1<<63 | 1, []int{0, 62, 63, 64, -1}},
		{7, []int{0, 1, 2, 3, 65}},
	} {
		over := 0
		var steps []func(*teller)
		for _, e := range c.numbers {
			steps = append(steps, func(x *teller) {
				if x.have(t, e) && x.p.Over() {
					over++
				}
			})
		}
		sample.AllRuns(5, func() *teller { return fresh(t, c.mask) }, steps)
		if (over > 0) != (c.mask > 0) {
			t.Errorf("of %#x: %d runs came to be over", c.mask, over)
		}
	}
}

// chosen: the number that a word chooses: mostly an extent, now and then one beside them, or any.
func chosen(w uint64) int {
	switch w >> 8 % 16 {
	case 0:
		return int(w)
	case 1:
		return 64 + int(w>>16%64)
	case 2:
		return -1 - int(w>>16%64)
	case 3:
		return int(w>>16%64) + 1<<(6+w>>32%56)
	}
	return int(w >> 16 % 64)
}

// Long runs of no pattern, each behind the other one's end on a new mask.
func TestP27_2LongRuns(t *testing.T) {
	words := sample.Words()
	over, next := 0, 0
	x := fresh(t, full)
	for range 20 {
		for _, w := range words {
			x.have(t, chosen(w))
			if x.p.Over() {
				over++
				next++
				x = fresh(t, words[next*17%len(words)])
			}
		}
	}
	if over < 100 {
		t.Errorf("%d were over", over)
	}
}
