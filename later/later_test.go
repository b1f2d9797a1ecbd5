package later_test

import (
	"bytes"
	"math"
	"slices"
	"testing"

	"twain/api"
	"twain/clash"
	"twain/later"
	"twain/sample"
)

func TestP25_1Example(t *testing.T) {
	q := later.New()
	if !q.Push(1, at(0, 2), []byte("one")) || !q.Push(2, at(4, 2), []byte("two")) {
		t.Error("Push: false")
	}
	w, ok := q.Next([]clash.Own{sent(1, 1)})
	if !ok || w.Id != 2 || w.Span != at(4, 2) || string(w.Data) != "two" {
		t.Errorf("Next: %v, %v, want the write of 2", w, ok)
	}
	if q.Len() != 1 || !slices.Equal(q.Spans(), []api.Span{at(0, 2)}) || q.Over(at(4, 2)) || !q.Over(at(1, 3)) {
		t.Errorf("Len %d, Spans %v, Over (4, 2): %v, Over (1, 3): %v", q.Len(), q.Spans(), q.Over(at(4, 2)), q.Over(at(1, 3)))
	}
	if w, ok := q.Next([]clash.Own{sent(1, 1)}); ok || !isNone(w) {
		t.Errorf("Next again: %v, %v, want none", w, ok)
	}
}

func TestP25_1None(t *testing.T) {
	a := both(t)
	// Emptied, it is as it was.
	for range 3 {
		for _, own := range [][]clash.Own{nil, {}, {sent(0, 9)}, {unsent(0, 9)}, {sent(0, 0), sent(-1, 5), unsent(3, 3)}} {
			a.stays(t, own...)
		}
		a.finds(t, "of none", slices.Concat(sample.Spans(), sample.NoSpans())...)
		if a.q.Len() != 0 || a.q.Spans() != nil {
			t.Fatalf("of none: Len %d, Spans %v", a.q.Len(), a.q.Spans())
		}
		a.push(t, write(7, at(3, 2)))
		a.goes(t, 7)
	}
}

// Any id may be, and the same one may wait several times: who goes hangs on the spans alone.
func TestP25_1Ids(t *testing.T) {
	all := append(sample.Ends(), 0, -1, -2, 1, 2, 7, 7, 7, 0, -1, math.MinInt, math.MaxInt)
	for _, order := range sample.WaysThrough[int]() {
		a := both(t)
		for i, id := range order(all) {
			a.push(t, write(id, at(i%5, 1)))
		}
		if got := a.drained(t); !slices.Equal(got, order(all)) {
			t.Errorf("went: %v, want %v", got, order(all))
		}
	}
	// Of one id and one span, the first one goes first.
	a := of(t, later.Write{Id: 5, Span: at(1, 2), Data: []byte("a")}, later.Write{Id: 5, Span: at(1, 2), Data: []byte("b")}, later.Write{Id: 5, Span: at(1, 2)})
	for _, want := range []string{"a", "b", ""} {
		a.stays(t, sent(2, 1))
		if got, ok := a.next(t, sent(3, 1)); !ok || string(got.Data) != want {
			t.Errorf("of one id thrice: %v, %v, want %q", got, ok, want)
		}
	}
}

// Each span alone. One of no sector, or that is not plain, waits until the next Next, for nothing overlaps it.
func TestP25_1OneWriteOfEachSpan(t *testing.T) {
	everywhere := []clash.Own{sent(0, sample.MostSectors), sent(sample.MostSectors, sample.MostSectors)}
	alone := func(s api.Span, waits bool) {
		a := of(t, write(5, s))
		a.finds(t, "of one", sample.Spans()...)
		a.finds(t, "of one", sample.NoSpans()...)
		if _, went := a.next(t, everywhere...); went == waits {
			t.Errorf("(%v) goes where own writes are everywhere: %v", s, went)
		}
		a.drained(t)
	}
	for _, s := range sample.Spans() {
		alone(s, s.Len > 0)
	}
	for _, s := range sample.NoSpans() {
		alone(s, false)
	}
}

// They keep their places among others, and are told as they were pushed.
func TestP25_1SpansThatMayNotBe(t *testing.T) {
	no := []api.Span{at(3, 0), at(0, 0), at(-1, 5), at(4, -2), at(math.MinInt, math.MinInt), at(math.MaxInt, math.MaxInt), at(math.MinInt, math.MaxInt), at(0, math.MaxInt), at(math.MaxInt, 1), at(sample.MostSectors+1, 1), at(0, sample.MostSectors+1), at(-1, 5)}
	a := both(t)
	for i, s := range no {
		a.push(t, write(i, s))
		a.push(t, write(100+i, at(4, 1)))
	}
	a.finds(t, "of many", slices.Concat(no, sample.SmallSpans(7))...)
	for i := range no {
		a.goes(t, i, sent(0, 9), sent(-1, 5), sent(math.MinInt, math.MaxInt), sent(3, 0))
	}
	a.stays(t, sent(0, 9))
	for i := range no {
		a.goes(t, 100+i, sent(-1, 5), sent(math.MaxInt, math.MaxInt), sent(4, 0), sent(5, -1), sent(0, sample.MostSectors+1))
	}
}

// A Queue does not ask which data a write may have: it has a copy of it.
func TestP25_1Data(t *testing.T) {
	for _, data := range append(sample.Lists(), sample.Bytes(api.SectorSize*api.MaxLen), sample.Bytes(1<<16), make([]byte, 1<<20)) {
		a := of(t, later.Write{Id: 3, Span: at(4, 4), Data: data}, later.Write{Id: 4, Span: at(6, 1)}, later.Write{Id: 5, Data: data})
		if w, ok := a.next(t, sent(6, 1)); !ok || w.Id != 5 || !bytes.Equal(w.Data, data) {
			t.Errorf("Next: %d, %d bytes, %v, want 5, %d", w.Id, len(w.Data), ok, len(data))
		}
		a.stays(t, sent(4, 4), sent(0, 0), sent(6, 1))
		if w, ok := a.q.Next(nil); !ok || w.Id != 3 || !bytes.Equal(w.Data, data) {
			t.Errorf("Next: %d, %d bytes, %v, want 3, %d", w.Id, len(w.Data), ok, len(data))
		}
	}
}

// What one own write does to one that waits, of the sectors 10 to 14 or of others: it waits if that is Sent, and goes if it is not.
func TestP25_1OneOwnWrite(t *testing.T) {
	const most = sample.MostSectors
	for _, c := range []struct {
		own, in api.Span
		waits   bool
	}{
		// The own one holds it, is the very same, is held by it.
		{at(9, 7), at(10, 5), true},
		{at(9, 6), at(10, 5), true},
		{at(10, 6), at(10, 5), true},
		{at(0, 99), at(10, 5), true},
		{at(10, 5), at(10, 5), true},
		{at(10, 4), at(10, 5), true},
		{at(11, 4), at(10, 5), true},
		{at(11, 3), at(10, 5), true},
		{at(12, 1), at(10, 5), true},
		{at(10, 1), at(10, 1), true},
		// At one sector alone: at either end.
		{at(14, 1), at(10, 5), true},
		{at(14, 8), at(10, 5), true},
		{at(10, 1), at(10, 5), true},
		{at(3, 8), at(10, 5), true},
		// It ends where that begins, and begins where that ends; and there is room between.
		{at(2, 8), at(10, 5), false},
		{at(9, 1), at(10, 5), false},
		{at(15, 1), at(10, 5), false},
		{at(15, 8), at(10, 5), false},
		{at(0, 9), at(10, 5), false},
		{at(16, 8), at(10, 5), false},
		// Spans that may not be keep nothing waiting.
		{at(12, 0), at(10, 5), false},
		{at(-1, 99), at(10, 5), false},
		{at(14, -3), at(10, 5), false},
		{at(0, most+1), at(10, 5), false},
		{at(math.MinInt, math.MaxInt), at(10, 5), false},
		{at(0, math.MaxInt), at(10, 5), false},
		// At the greatest numbers that may be.
		{at(0, most), at(most-1, 2), true},
		{at(0, most), at(most, 1), false},
		{at(most, most), at(most, most), true},
		{at(most, 1), at(most, most), true},
	} {
		waits := of(t, write(5, c.in))
		if c.waits {
			waits.stays(t, clash.Own{Span: c.own, Sent: true})
		}
		waits.goes(t, 5, clash.Own{Span: c.own, Sent: !c.waits})
	}
}

// Each pair of small spans, Sent and not.
func TestP25_1EachPairOfSpans(t *testing.T) {
	for _, s := range sample.SmallSpans(8) {
		for _, in := range sample.SmallSpans(8) {
			for _, isSent := range []bool{true, false} {
				a := of(t, write(2, in))
				if _, went := a.next(t, clash.Own{Span: s, Sent: isSent}); went == (isSent && sample.InBoth(s, in)) {
					t.Errorf("own %v, Sent %v: that of %v went: %v", s, isSent, in, went)
				}
			}
		}
	}
}

// A write goes just where layer 23's Verdict of the node that is not the arbiter is Apply, whatever the arbiter's would be.
func TestP25_1ByTheVerdictOfTheOtherNode(t *testing.T) {
	type verdicts struct{ atArbiter, atOther int }
	met := map[verdicts]int{}
	things := []clash.Own{sent(0, 4), sent(2, 2), unsent(1, 4), unsent(3, 1), sent(6, 3), unsent(6, 6), sent(4, -1), unsent(0, 0)}
	for _, own := range sample.Rows(things, 3) {
		for _, in := range []api.Span{at(0, 1), at(1, 2), at(3, 2), at(4, 2), at(5, 3), at(8, 1), at(9, 9), at(3, 0), at(-1, 3)} {
			v := verdicts{clash.Verdict(true, own, in), clash.Verdict(false, own, in)}
			a := of(t, write(1, in))
			if _, went := a.next(t, own...); went != (v.atOther == clash.Apply) {
				t.Fatalf("own %v: that of %v went: %v, where the Verdict is %s", own, in, went, clash.Name(v.atOther))
			}
			met[v]++
		}
	}
	for _, v := range []verdicts{{clash.Apply, clash.Apply}, {clash.Over, clash.Apply}, {clash.Over, clash.Later}, {clash.Retry, clash.Apply}, {clash.Retry, clash.Later}} {
		if met[v] == 0 {
			t.Errorf("at the arbiter %s, at the other node %s: not met", clash.Name(v.atArbiter), clash.Name(v.atOther))
		}
	}
	if len(met) != 5 {
		t.Errorf("met: %v", met)
	}
}

// Of several that wait, which one goes first, where all may, none, the first, one in the middle, the last.
func TestP25_2WhichOneGoes(t *testing.T) {
	four := []later.Write{write(1, at(0, 4)), write(2, at(4, 4)), write(3, at(8, 4)), write(4, at(12, 4))}
	for _, c := range []struct {
		own  []clash.Own
		want int // 0: none
	}{
		{nil, 1},
		{[]clash.Own{unsent(0, 99)}, 1},
		{[]clash.Own{sent(16, 9), unsent(2, 2)}, 1},
		{[]clash.Own{sent(4, 12)}, 1},
		{[]clash.Own{sent(3, 1)}, 2},
		{[]clash.Own{sent(0, 4)}, 2},
		{[]clash.Own{unsent(4, 4), sent(0, 1), sent(8, 8)}, 2},
		{[]clash.Own{sent(3, 2)}, 3},
		{[]clash.Own{sent(15, 3), sent(0, 5)}, 3},
		{[]clash.Own{sent(5, 1), sent(1, 1), unsent(9, 1)}, 3},
		{[]clash.Own{sent(0, 12)}, 4},
		{[]clash.Own{sent(11, 1), sent(7, 1), sent(3, 1)}, 4},
		{[]clash.Own{sent(3, 10)}, 0},
		{[]clash.Own{sent(0, 16)}, 0},
		{[]clash.Own{sent(12, 1), unsent(0, 16), sent(3, 2), sent(11, 1)}, 0},
	} {
		a := of(t, four...)
		if c.want == 0 {
			a.stays(t, c.own...)
			a.stays(t, c.own...)
		} else {
			a.goes(t, c.want, c.own...)
		}
		// All others are there, in order, with their data.
		want := slices.DeleteFunc(ids(four), func(id int) bool { return id == c.want })
		if got := a.drained(t); !slices.Equal(got, want) {
			t.Errorf("own %v: behind it went %v, want %v", c.own, got, want)
		}
	}
}

// Where one waits another one that came behind it goes, even if those two overlap: each is held against the own ones alone.
func TestP25_2OneThatCameBehindGoesAhead(t *testing.T) {
	a := of(t, write(1, at(0, 4)), write(2, at(2, 4)), write(3, at(0, 4)))
	a.goes(t, 2, sent(1, 1))
	a.stays(t, sent(1, 1))
	a.push(t, write(4, at(2, 2)))
	a.goes(t, 4, sent(1, 1))
	a.goes(t, 1, unsent(1, 1))
	a.stays(t, sent(3, 1))
	a.goes(t, 3)
}

// As the own ones are answered, one by one, what waited goes; what was refused is refused again till then.
func TestP25_2GoesAsOwnOnesAreAnswered(t *testing.T) {
	own := []clash.Own{sent(0, 4), sent(4, 4), sent(8, 4)}
	a := of(t, write(1, at(3, 2)), write(2, at(8, 1)), write(3, at(1, 2)), write(4, at(0, 12)), write(5, at(6, 1)))
	a.stays(t, own...)
	own[1].Sent = false
	a.goes(t, 5, own...)
	a.stays(t, own...)
	own = own[1:]
	a.goes(t, 1, own...)
	a.goes(t, 3, own...)
	a.stays(t, own...)
	a.push(t, write(6, at(0, 4)))
	a.goes(t, 6, own...)
	own[1].Sent = false
	a.goes(t, 2, own...)
	a.goes(t, 4, own...)
	a.stays(t, own...)
}

// What is overlapped of the sectors 4 to 7, 8 and 12 to 13, which four writes have, two of them the same.
func TestP25_1Over(t *testing.T) {
	a := of(t, write(3, at(12, 2)), write(1, at(8, 1)), write(2, at(4, 4)), write(2, at(4, 4)))
	for _, c := range []struct {
		s    api.Span
		want bool
	}{
		// One of them: the very same, a part, more than it, and at one sector alone.
		{at(4, 4), true}, {at(8, 1), true}, {at(12, 2), true}, {at(5, 1), true}, {at(0, 5), true}, {at(7, 1), true}, {at(13, 9), true}, {at(11, 2), true}, {at(9, 4), true},
		// Several.
		{at(7, 2), true}, {at(8, 5), true}, {at(4, 10), true}, {at(0, sample.MostSectors), true},
		// None, beside one and between two.
		{at(0, 4), false}, {at(3, 1), false}, {at(9, 3), false}, {at(9, 1), false}, {at(11, 1), false}, {at(14, 1), false}, {at(14, sample.MostSectors), false}, {at(sample.MostSectors, 1), false},
		// Spans that may not be.
		{at(5, 0), false}, {at(4, 0), false}, {at(0, 0), false}, {at(-1, 99), false}, {at(5, -1), false}, {at(8, -3), false}, {at(0, sample.MostSectors+1), false}, {at(math.MaxInt, math.MaxInt), false}, {at(0, math.MaxInt), false}, {at(math.MinInt, math.MaxInt), false}, {at(math.MinInt, math.MinInt), false},
	} {
		if got := a.q.Over(c.s); got != c.want {
			t.Errorf("Over(%v): %v, want %v", c.s, got, c.want)
		}
	}
	// One of the two that are the same goes: the other one is still there.
	for range 4 {
		a.finds(t, "of some", slices.Concat(sample.SmallSpans(20), sample.Spans(), sample.NoSpans())...)
		a.next(t, sent(12, 2))
	}
	a.goes(t, 3)
	a.finds(t, "of none", slices.Concat(sample.SmallSpans(20), sample.Spans(), sample.NoSpans())...)
}

// In the order of Pushes, not of the spans or the ids, behind each call.
func TestP25_1Spans(t *testing.T) {
	five := []later.Write{write(9, at(20, 2)), write(3, at(3, 1)), write(7, at(0, 3)), write(1, at(8, 8)), write(5, at(4, 4))}
	orders := sample.Orders(len(five))
	for i, in := range orders {
		q := later.New()
		var want []api.Span
		for _, n := range in {
			q.Push(five[n].Id, five[n].Span, five[n].Data)
			want = append(want, five[n].Span)
			if got := q.Spans(); !slices.Equal(got, want) || q.Len() != len(want) {
				t.Fatalf("pushed in the order %v: Spans %v, want %v", in, got, want)
			}
		}
		for _, n := range orders[(i*7+5)%len(orders)] {
			// All others are kept waiting by an own write of the same span.
			var own []clash.Own
			for other, w := range five {
				if other != n {
					own = append(own, clash.Own{Span: w.Span, Sent: true})
				}
			}
			if w, ok := q.Next(own); !ok || !same(w, five[n]) {
				t.Fatalf("pushed in the order %v, Next(%v): %v, %v, want %v", in, own, w, ok, five[n])
			}
			want = slices.DeleteFunc(want, func(s api.Span) bool { return s == five[n].Span })
			if got := q.Spans(); !slices.Equal(got, want) || q.Len() != len(want) {
				t.Fatalf("pushed in the order %v, Next(%v): Spans %v, want %v", in, own, got, want)
			}
		}
	}
}
