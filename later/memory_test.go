package later_test

import (
	"bytes"
	"fmt"
	"slices"
	"testing"

	"twain/api"
	"twain/clash"
	"twain/later"
	"twain/sample"
)

// The data handed to Push are the caller's: they are not changed, with the room behind their end, and may be changed, while they wait and when they went.
func TestR3TheDataHandedToPush(t *testing.T) {
	for _, size := range []int{0, 1, 16, 128, 5000} {
		for _, room := range []int{0, 1, 40} {
			data, memory := sample.WithRoom(sample.Bytes(size), 9, room)
			was := bytes.Clone(memory)
			a := both(t)
			for id := range 6 {
				a.push(t, later.Write{Id: id, Span: at(id, 1), Data: data})
			}
			a.goes(t, 1, sent(0, 1))
			kept, _ := a.q.Next([]clash.Own{sent(0, 1)})
			a.p.next([]clash.Own{sent(0, 1)})
			if !bytes.Equal(memory, was) {
				t.Fatalf("data of %d bytes, with room for %d, were changed", size, room)
			}
			sample.Spoil(data)
			if kept.Id != 2 || !bytes.Equal(kept.Data, was[:size]) {
				t.Fatalf("of %d bytes: what went is %v behind a change of what was handed to Push", size, kept)
			}
			a.goes(t, 3, sent(0, 1))
			a.drained(t)
		}
	}
}

// What Next answers is the caller's: to change, with its spare room, and to keep.
func TestR3TheWriteThatNextAnswers(t *testing.T) {
	for _, size := range []int{0, 1, 16, 128, 5000} {
		data := sample.Bytes(size)
		a := both(t)
		for id := range 8 {
			a.push(t, later.Write{Id: id, Span: at(id, 1), Data: data})
		}
		changed, _ := a.next(t, sent(0, 3))
		kept, _ := a.next(t, sent(0, 2))
		want := later.Write{Id: 2, Span: at(2, 1), Data: bytes.Clone(data)}
		_ = append(changed.Data, 1, 2, 3)
		sample.Spoil(changed.Data)
		changed.Id, changed.Span = -1, at(0, 99)
		a.tells(t, "behind a change of what Next answered")
		a.finds(t, "behind a change of what Next answered", sample.SmallSpans(12)...)
		for id := range 8 {
			a.push(t, write(id, at(id, 1)))
		}
		a.drained(t)
		if !same(kept, want) {
			t.Fatalf("of %d bytes: what Next answered is %v behind other calls", size, kept)
		}
	}
}

// The own writes handed to Next are the caller's, with the room behind their end.
func TestR3TheOwnWritesHandedToNext(t *testing.T) {
	for n := range 6 {
		for _, room := range []int{0, 1, 7} {
			own, memory := sample.WithRoom([]clash.Own{sent(0, 1), unsent(1, 5), sent(5, 1), sent(2, 1), sent(-1, 9)}[:min(n, 5)], unsent(7, 7), room)
			was := slices.Clone(memory)
			a := of(t, beside(9)...)
			for range 12 {
				a.next(t, own...)
				if !slices.Equal(memory, was) {
					t.Fatalf("Next changed %v to %v", was, memory)
				}
			}
			for i := range memory {
				memory[i] = sent(0, 99)
			}
			a.tells(t, "behind a change of what was handed to Next")
			a.drained(t)
		}
	}
}

// What Spans tells is the caller's: to change, with its spare room, and to keep.
func TestR3TheSpansThatAreTold(t *testing.T) {
	for n := range 20 {
		a := of(t, sample.Mixed(beside(n))...)
		kept, changed, other := a.q.Spans(), a.q.Spans(), a.q.Spans()
		was := slices.Clone(kept)
		_ = append(changed, at(1, 1))
		changed = changed[:cap(changed)]
		for i := range changed {
			changed[i] = at(-7, 7)
		}
		if !slices.Equal(other, was) {
			t.Fatalf("Spans: %v, is %v behind a change of another answer", was, other)
		}
		a.tells(t, "behind a change of what Spans told")
		a.finds(t, "behind a change of what Spans told", sample.SmallSpans(12)...)
		a.next(t, sent(0, 3))
		a.push(t, write(99, at(3, 3)))
		a.drained(t)
		a.push(t, write(99, at(5, 5)))
		if !slices.Equal(kept, was) {
			t.Fatalf("what Spans told, %v, is %v behind other calls", was, kept)
		}
	}
}

// What is only asked, again and again, is the same each time, and so is a Next that finds none.
func TestR4WhatAsksChangesNothing(t *testing.T) {
	a := of(t, sample.Mixed(beside(40))...)
	for range 20 {
		a.tells(t, "asked again")
		a.finds(t, "asked again", sample.SmallSpans(12)...)
		a.stays(t, sent(0, 1000))
	}
	if got, want := a.drained(t), ids(sample.Mixed(beside(40))); !slices.Equal(got, want) {
		t.Errorf("went: %v, want %v", got, want)
	}
}

func TestR4QueuesGoTheirOwnWays(t *testing.T) {
	one, other := of(t, beside(20)...), of(t, sample.Falling(beside(30))...)
	for i := range 20 {
		one.next(t, sent(0, i%5))
		other.tells(t, "the other")
		other.push(t, write(100+i, at(1000+i, 1)))
		one.tells(t, "the one")
		one.finds(t, "the one", at(1000+i, 1))
	}
	one.drained(t)
	if got := other.drained(t); len(got) != 50 {
		t.Errorf("of the other went: %v", got)
	}
}

func TestR5AQueueThatNoCallMade(t *testing.T) {
	spans := slices.Concat(sample.SmallSpans(4), sample.Spans()[:60], sample.NoSpans()[:60])
	owns := [][]clash.Own{nil, {}, {sent(0, 4)}, {unsent(0, 4), sent(-1, 2)}}
	for _, q := range []*later.Queue{nil, {}, new(later.Queue)} {
		// Twice: no call makes it.
		for range 2 {
			for _, s := range spans {
				for _, id := range append(sample.Ends(), -1, 0, 1) {
					if q.Push(id, s, nil) || q.Push(id, s, []byte{1}) {
						t.Errorf("Push(%d, %v): true", id, s)
					}
				}
				if q.Over(s) {
					t.Errorf("Over(%v): true", s)
				}
			}
			for _, own := range owns {
				if w, ok := q.Next(own); ok || !isNone(w) {
					t.Errorf("Next(%v): %v, %v, want none", own, w, ok)
				}
			}
			if q.Spans() != nil || q.Len() != 0 || q.Over(api.Span{Len: 1}) {
				t.Errorf("Spans %v, Len %d, want nil, 0", q.Spans(), q.Len())
			}
		}
		if q != nil && fmt.Sprint(*q) != fmt.Sprint(later.Queue{}) {
			t.Errorf("a Queue that no call made became %v", *q)
		}
	}
}
