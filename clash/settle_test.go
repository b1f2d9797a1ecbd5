package clash_test

import (
	"slices"
	"testing"

	"twain/api"
	"twain/clash"
	"twain/sample"
)

// Whatever is on its way at the other node, it refuses nothing of the arbiter's; whatever is at the arbiter, nothing waits there for an answer.
func TestP23_2NoRefusalAndNoWaiting(t *testing.T) {
	ask := func(own []clash.Own, in api.Span) {
		if got := clash.Verdict(false, own, in); got != clash.Apply && got != clash.Later {
			t.Fatalf("the other node, own %v, refuses %v: %d", own, in, got)
		}
		if got := clash.Verdict(true, own, in); got == clash.Later {
			t.Fatalf("at the arbiter, own %v, waits %v", own, in)
		}
	}
	for _, own := range sample.Rows(letters(), 3) {
		for _, in := range sample.SmallSpans(5) {
			ask(own, in)
		}
	}
	for _, s := range slices.Concat(sample.Spans(), sample.NoSpans()) {
		ask([]clash.Own{{Span: s, Sent: true}}, s)
		ask([]clash.Own{{Span: s}, sent(0, 256)}, s)
		ask([]clash.Own{sent(0, 256), {Span: s, Sent: true}}, at(255, 2))
	}
}

// around: lists in which the own write stands alone, and with others beside it, which overlap neither it nor what comes.
func around(one clash.Own, others []clash.Own) [][]clash.Own {
	lists := [][]clash.Own{{one}}
	for n := 1; n <= len(others); n++ {
		for place := range n + 1 {
			lists = append(lists, slices.Insert(slices.Clone(others[:n]), place, one))
		}
	}
	return lists
}

// Two small writes that overlap, each Sent at its own node: the arbiter refuses the other one's at once, as over or to be tried again; the other node lets the arbiter's wait, until it has that answer, and then applies it.
func TestP23_2TwoThatOverlap(t *testing.T) {
	others := []clash.Own{sent(20, 4), unsent(30, 1), sent(99, 8)}
	for _, mine := range sample.SmallSpans(8) {
		for _, theirs := range sample.SmallSpans(8) {
			if !sample.InBoth(mine, theirs) {
				continue
			}
			answer := isRetried
			if allIn(mine, theirs) {
				answer = isOver
			}
			for _, own := range around(clash.Own{Span: mine, Sent: true}, others) {
				if got := clash.Verdict(true, own, theirs); got != answer {
					t.Fatalf("the arbiter, own %v, in %v: %d, want %d", own, theirs, got, answer)
				}
			}
			one := clash.Own{Span: theirs, Sent: true}
			for _, own := range around(one, others) {
				if got := clash.Verdict(false, own, mine); got != isLater {
					t.Fatalf("the other node, own %v, in %v: %d, want Later", own, mine, got)
				}
				behind := answered(own, slices.Index(own, one), answer)
				if got := clash.Verdict(false, behind, mine); got != isApplied {
					t.Fatalf("the other node, own %v behind the answer %d, in %v: %d, want Apply", behind, answer, mine, got)
				}
			}
		}
	}
}

// answered: the other node's own writes, when the one at that place had its answer: one to be tried again is Sent no longer, any other one is no longer there.
func answered(own []clash.Own, place, answer int) []clash.Own {
	own = slices.Clone(own)
	if answer == isRetried {
		own[place].Sent = false
		return own
	}
	return slices.Delete(own, place, place+1)
}

// apart: all lists of up to most writes among so many sectors, all of them Sent, that do not overlap each other.
func apart(sectors, most int) [][]clash.Own {
	var spans []clash.Own
	for _, s := range sample.SmallSpans(sectors + 1) {
		if s.Len > 0 && s.Off+s.Len <= sectors {
			spans = append(spans, clash.Own{Span: s, Sent: true})
		}
	}
	return slices.DeleteFunc(sample.Rows(spans, most), func(row []clash.Own) bool {
		for i, one := range row {
			for _, other := range row[:i] {
				if sample.InBoth(one.Span, other.Span) {
					return true
				}
			}
		}
		return false
	})
}

// area is who wrote each sector last: 0, or a mark of the arbiter's writes or of the other node's.
type area [8]int

// mark: all sectors of s were written by that one.
func (a *area) mark(s api.Span, by int) {
	for sector := range a {
		if sample.InSpan(s, sector) {
			a[sector] = by
		}
	}
}

// Several on their way at both nodes: the arbiter's answers come one by one, and each write of its own waits at the other node just as long as one that overlaps it has none; then what is tried again is applied, and both have the same.
func TestP23_2SeveralAtBothNodes(t *testing.T) {
	const arbiters, others = 1, 2
	lists := apart(5, 3)
	retried := 0
	for _, mine := range lists {
		for _, theirs := range lists {
			var here, there area
			for _, o := range mine {
				here.mark(o.Span, arbiters)
			}
			for _, o := range theirs {
				there.mark(o.Span, others)
			}
			left := theirs
			for _, o := range theirs {
				waiting(t, mine, left)
				answer := clash.Verdict(true, mine, o.Span)
				if answer == clash.Apply {
					here.mark(o.Span, others)
				}
				left = answered(left, slices.Index(left, o), answer)
			}
			waiting(t, mine, left)
			for _, o := range mine {
				there.mark(o.Span, arbiters)
			}
			for _, o := range left {
				retried++
				judged(t, nil, o.Span, isApplied, isApplied)
				there.mark(o.Span, others)
				here.mark(o.Span, others)
			}
			if here != there {
				t.Fatalf("the arbiter's %v, the other node's %v: %v is not %v", mine, theirs, here, there)
			}
		}
	}
	if retried == 0 {
		t.Errorf("of %d lists none was tried again", len(lists))
	}
}

// waiting: do just those of the arbiter's writes wait at the other node which overlap one of its own that has no answer?
func waiting(t *testing.T, mine, left []clash.Own) {
	t.Helper()
	for _, o := range mine {
		want := isApplied
		if slices.ContainsFunc(left, func(x clash.Own) bool { return x.Sent && sample.InBoth(x.Span, o.Span) }) {
			want = isLater
		}
		if got := clash.Verdict(false, left, o.Span); got != want {
			t.Fatalf("the other node, own %v, in %v: %d, want %d", left, o.Span, got, want)
		}
	}
}
