package wait_test

import (
	"fmt"
	"math"
	"testing"

	"twain/api"
	"twain/sample"
	"twain/wait"
)

// scene is what May and First are asked of.
type scene struct {
	l      []wait.Item
	flying []wait.Item
	later  []api.Span
}

// holdUps: how much holds the item at that place up, by the chapter's words: all is counted, whatever was found.
func (c scene) holdUps(place int) int {
	n, x := 0, c.l[place]
	for i, other := range c.l {
		isWriteAhead := i < place && other.Kind == 1
		if isWriteAhead && (x.Kind == 2 || sample.InBoth(other.Span, x.Span)) {
			n++
		}
	}
	for _, other := range c.flying {
		if x.Kind == 2 && other.Ticket < x.Ticket || x.Kind != 2 && sample.InBoth(other.Span, x.Span) {
			n++
		}
	}
	for _, s := range c.later {
		if x.Kind == 1 && sample.InBoth(s, x.Span) {
			n++
		}
	}
	return n
}

// mays: of each place, whether its item may go on.
func (c scene) mays() []bool {
	list := make([]bool, len(c.l))
	for i, x := range c.l {
		isKind := x.Kind == 0 || x.Kind == 1 || x.Kind == 2
		list[i] = isKind && c.holdUps(i) == 0
	}
	return list
}

// firstOf: the first of the places from from on that is true.
func firstOf(mays []bool, from int) (int, bool) {
	if from < 0 {
		return 0, false
	}
	for i, may := range mays {
		if i >= from && may {
			return i, true
		}
	}
	return 0, false
}

// outside: places at which no list of that length has an item: beside it, and at the ends of an int.
func outside(n int) []int {
	return []int{-1, -2, -n, -n - 1, math.MinInt32, -1 << 32, math.MinInt + 1, math.MinInt, n, n + 1, 2*n + 2, 1 << 32, 1<<32 + n, math.MaxInt - 1, math.MaxInt}
}

// asked: what May answers of each place, which is what mays tells, and all that First answers, from each place on, is by that.
func (c scene) asked(t *testing.T) []bool {
	t.Helper()
	want := c.mays()
	for i, may := range want {
		c.may(t, i, may)
		at, ok := firstOf(want, i)
		c.first(t, i, at, ok)
	}
	return want
}

// askedOutside: there is no item beside the list, and far from it.
func (c scene) askedOutside(t *testing.T) {
	t.Helper()
	for _, place := range outside(len(c.l)) {
		c.may(t, place, false)
		c.first(t, place, 0, false)
	}
}

// may: does May of that place answer that?
func (c scene) may(t *testing.T, place int, want bool) {
	t.Helper()
	if got := wait.May(c.l, place, c.flying, c.later); got != want {
		t.Fatalf("%s: May of %d: %v, want %v", c, place, got, want)
	}
}

// first: does First from that place on answer that?
func (c scene) first(t *testing.T, from, want int, wantOk bool) {
	t.Helper()
	if got, ok := wait.First(c.l, from, c.flying, c.later); got != want || ok != wantOk {
		t.Fatalf("%s: First from %d on: %d, %v, want %d, %v", c, from, got, ok, want, wantOk)
	}
}

// String tells a scene in a failed test's words.
func (c scene) String() string {
	return fmt.Sprintf("of %v, flying %v, later %v", c.l, c.flying, c.later)
}

// at: a span.
func at(off, n int) api.Span { return api.Span{Off: off, Len: n} }

// item: a request under its ticket.
func item(ticket, kind int, s api.Span) wait.Item {
	return wait.Item{Ticket: ticket, Kind: kind, Span: s}
}
