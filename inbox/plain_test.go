package inbox_test

import (
	"math"
	"slices"
	"testing"

	"twain/inbox"
	"twain/sample"
)

// most: the greatest number that may be taken.
const most = math.MaxInt32

// taker is an In, and what it took so far, by what its calls answered.
type taker struct {
	b     *inbox.In
	taken []int
}

func fresh(t *testing.T) *taker {
	t.Helper()
	x := &taker{b: inbox.New()}
	if x.b == nil {
		t.Fatal("New: nil")
	}
	x.tells(t, "new")
	return x
}

// last: the last one that was taken, 0 at first.
func (x *taker) last() int {
	if len(x.taken) == 0 {
		return 0
	}
	return x.taken[len(x.taken)-1]
}

// tells: does Ack tell the last one, however often it is asked?
func (x *taker) tells(t *testing.T, what string) {
	t.Helper()
	for range 2 {
		if got := x.b.Ack(); got != x.last() {
			t.Fatalf("%s: Ack %d, want %d", what, got, x.last())
		}
	}
}

// take: a Take, which is to answer whether it is the one behind the last, and what Ack tells then.
func (x *taker) take(t *testing.T, seq int) bool {
	t.Helper()
	last := x.last()
	took := x.b.Take(seq)
	if want := seq > 0 && seq-1 == last; took != want {
		t.Fatalf("behind %d: Take(%d): %v, want %v", last, seq, took, want)
	}
	if took {
		x.taken = append(x.taken, seq)
	}
	if got := x.b.Ack(); got != x.last() {
		t.Fatalf("behind %d: Ack behind Take(%d): %d, want %d", last, seq, got, x.last())
	}
	return took
}

// tookInOrder: is what was taken 1, 2, 3, .., so many, each once?
func (x *taker) tookInOrder(t *testing.T, many int) {
	t.Helper()
	if got := x.b.Ack(); len(x.taken) != many || got != many {
		t.Fatalf("%d were taken, Ack %d, want %d", len(x.taken), got, many)
	}
	for i, n := range x.taken {
		if n != i+1 {
			t.Fatalf("%d was taken behind %d others", n, i)
		}
	}
}

// upTo: the numbers from 1 to n.
func upTo(n int) []int {
	var list []int
	for i := range n {
		list = append(list, i+1)
	}
	return list
}

// others: numbers that may not be taken behind last: those beside the next one and below 0, those that differ from it by one bit, or by a power of two, and the ends.
func others(last int) []int {
	next := last + 1
	list := append(sample.Ends(), 0, -1, -2, -last, -next, -next-1, last, last-1, next+1, next+2, 2*next+1, math.MinInt+next, math.MaxInt-next)
	for bit := range 64 {
		list = append(list, next^1<<bit)
	}
	for bit := range 63 {
		list = append(list, next-1<<bit)
		if next <= math.MaxInt-1<<bit {
			list = append(list, next+1<<bit)
		}
	}
	return slices.DeleteFunc(list, func(n int) bool { return n == next })
}

// refuses: is none of the numbers taken behind last, and does Ack tell last behind each?
func refuses(t *testing.T, b *inbox.In, last int, numbers ...int) {
	t.Helper()
	for _, n := range numbers {
		if took := b.Take(n); took || b.Ack() != last {
			t.Fatalf("behind %d: Take(%d): %v, then Ack %d", last, n, took, b.Ack())
		}
	}
}
