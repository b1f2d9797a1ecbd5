package inbox_test

import (
	"slices"
	"testing"

	"twain/sample"
)

// All rows of numbers from -1 to 5: what is taken is 1, 2, 3, ..
func TestP20_2AllShortRuns(t *testing.T) {
	whole := 0
	var steps []func(*taker)
	for n := -1; n <= 5; n++ {
		steps = append(steps, func(x *taker) {
			if x.take(t, n) && n == 5 {
				whole++
			}
			x.tookInOrder(t, len(x.taken))
		})
	}
	sample.AllRuns(6, func() *taker { return fresh(t) }, steps)
	if whole == 0 {
		t.Error("no run took all five")
	}
}

// firsts: how many of 1, 2, 3, .. stand in the row, one somewhere behind the other.
func firsts(row []int) int {
	found := 0
	for {
		at := slices.Index(row, found+1)
		if at < 0 {
			return found
		}
		found, row = found+1, row[at+1:]
	}
}

// plays: the row comes to a new In: what is taken is the first ones, as many as stand in it in order.
func plays(t *testing.T, row []int) int {
	t.Helper()
	x := fresh(t)
	for _, n := range row {
		x.take(t, n)
	}
	want := firsts(row)
	x.tookInOrder(t, want)
	return want
}

// All orders of few numbers, each once, each twice side by side, and the whole again.
func TestP20_2AllOrders(t *testing.T) {
	for n := range 7 {
		for _, order := range sample.Orders(n) {
			var once, doubled []int
			for _, place := range order {
				once = append(once, place+1)
				doubled = append(doubled, place+1, place+1)
			}
			plays(t, once)
			plays(t, doubled)
			if took, again := plays(t, once), plays(t, slices.Concat(once, once)); n > 0 && took < n && again <= took {
				t.Fatalf("%v: %d are taken, and %d where it comes twice", once, took, again)
			}
			if took := plays(t, slices.Repeat(once, n)); took != n {
				t.Fatalf("%v: %d are taken where it comes %d times", once, took, n)
			}
		}
	}
}

// Rising, falling, from both ends, without a pattern; each time with some left out, and then all of it.
func TestP20_2WaysThrough(t *testing.T) {
	for name, way := range sample.WaysThrough[int]() {
		for _, many := range []int{1, 2, 5, 60, 300} {
			list := way(upTo(many))
			for gap := 1; gap <= min(many, 10); gap++ {
				without := slices.DeleteFunc(slices.Clone(list), func(n int) bool { return n == gap })
				if took := plays(t, slices.Repeat(without, 12)); took >= gap {
					t.Fatalf("%s without %d: %d are taken", name, gap, took)
				}
				plays(t, slices.Concat(without, list, without, list))
			}
		}
	}
	if took := plays(t, sample.Falling(upTo(9))); took != 1 {
		t.Errorf("falling: %d are taken, want 1", took)
	}
	if took := plays(t, slices.Repeat(sample.Falling(upTo(9)), 9)); took != 9 {
		t.Errorf("nine times falling: %d are taken, want 9", took)
	}
}

// chosen: the number that a word chooses: mostly one near the last, and now and then any.
func chosen(w uint64, last int) int {
	near := last + 1 + int(w>>16%9) - 4
	switch w >> 8 % 8 {
	case 0:
		return int(w)
	case 1:
		return near + 1<<(w>>32%60)
	case 2:
		return -near
	case 3, 4:
		return last + 1
	}
	return near
}

func TestP20_2LongRuns(t *testing.T) {
	x := fresh(t)
	for range 20 {
		for _, w := range sample.Words() {
			x.take(t, chosen(w, x.last()))
		}
	}
	x.tookInOrder(t, len(x.taken))
	if len(x.taken) < 10_000 {
		t.Errorf("%d were taken", len(x.taken))
	}
}

// What a net does: numbers within a window come late, doubled or never, and those that were not taken are sent again.
func TestP20_2SentAgainUntilTaken(t *testing.T) {
	const many, window = 500, 16
	x := fresh(t)
	words := sample.Words()
	for i := 0; len(x.taken) < many; i++ {
		if i > 100*many {
			t.Fatalf("%d of %d were taken", len(x.taken), many)
		}
		first := x.b.Ack() + 1
		w := words[i%len(words)]
		for _, n := range sample.Mixed(upTo(window)) {
			for range w >> (2 * n) % 4 {
				x.take(t, max(1, first-4+n))
			}
		}
	}
	x.tookInOrder(t, len(x.taken))
}
