package clash_test

import (
	"testing"

	"twain/api"
	"twain/clash"
	"twain/sample"
)

// The verdicts by the chapter's numbers.
const (
	isApplied = 0
	isOver    = 1
	isRetried = 2
	isLater   = 3
)

// at: a span.
func at(off, n int) api.Span { return api.Span{Off: off, Len: n} }

// sent: an own write that is Sent.
func sent(off, n int) clash.Own { return clash.Own{Span: at(off, n), Sent: true} }

// unsent: an own write that is not.
func unsent(off, n int) clash.Own { return clash.Own{Span: at(off, n)} }

// allIn: is each sector of b in a, and has b one? A row that has the first one and the last one has all between.
func allIn(a, b api.Span) bool {
	return sample.InBoth(a, b) && sample.InSpan(a, b.Off) && sample.InSpan(a, b.Off+b.Len-1)
}

// plainly: both verdicts by the chapter's words: of all own writes it is counted what they are to in, whatever was found.
func plainly(own []clash.Own, in api.Span) (atArbiter, atOther int) {
	var holding, meeting, meetingSent int
	for _, o := range own {
		if allIn(o.Span, in) {
			holding++
		}
		if sample.InBoth(o.Span, in) {
			meeting++
			if o.Sent {
				meetingSent++
			}
		}
	}
	if meeting > 0 {
		atArbiter = isRetried
	}
	if holding > 0 {
		atArbiter = isOver
	}
	if meetingSent > 0 {
		atOther = isLater
	}
	return atArbiter, atOther
}

// judged: are those the verdicts, of the arbiter and of the other node?
func judged(t *testing.T, own []clash.Own, in api.Span, atArbiter, atOther int) {
	t.Helper()
	if got := clash.Verdict(true, own, in); got != atArbiter {
		t.Fatalf("Verdict of the arbiter, own %v, in %v: %d, want %d", own, in, got, atArbiter)
	}
	if got := clash.Verdict(false, own, in); got != atOther {
		t.Fatalf("Verdict of the other node, own %v, in %v: %d, want %d", own, in, got, atOther)
	}
}

// judgedPlainly: are the verdicts those of the chapter's words? They are answered.
func judgedPlainly(t *testing.T, own []clash.Own, in api.Span) (atArbiter, atOther int) {
	t.Helper()
	atArbiter, atOther = plainly(own, in)
	judged(t, own, in, atArbiter, atOther)
	return atArbiter, atOther
}

// judgedAlone: are those the verdicts where one own write alone is on its way, of that span: of the arbiter, whether it is Sent or not, and of the other node, if it is? Where it is not, the other node waits for nothing.
func judgedAlone(t *testing.T, s, in api.Span, atArbiter, atOther int) {
	t.Helper()
	judged(t, []clash.Own{{Span: s, Sent: true}}, in, atArbiter, atOther)
	judged(t, []clash.Own{{Span: s}}, in, atArbiter, isApplied)
}
