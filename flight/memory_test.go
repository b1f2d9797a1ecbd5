package flight_test

import (
	"bytes"
	"fmt"
	"slices"
	"testing"

	"twain/clash"
	"twain/flight"
	"twain/sample"
)

// The data handed to Add are the caller's: they are not changed, with the room behind their end, and may be changed, whether they were taken or refused.
func TestR3TheDataHandedToAdd(t *testing.T) {
	for _, size := range []int{0, 1, 16, 128, 5000} {
		for _, room := range []int{0, 1, 40} {
			data, memory := sample.WithRoom(sample.Bytes(size), 9, room)
			was := bytes.Clone(memory)
			a := both(t)
			for ticket := 1; ticket <= 3; ticket++ {
				a.adds(t, flight.Write{Ticket: ticket, Span: at(ticket, 1), Data: data}, true)
				a.adds(t, flight.Write{Ticket: ticket + 1, Span: at(ticket, 1), Data: data}, false)
			}
			a.turns(t, 2, isAgain, true)
			if !bytes.Equal(memory, was) {
				t.Fatalf("Add changed data of %d bytes, with room for %d", size, room)
			}
			sample.Spoil(data)
			a.tells(t, "behind a change of what was handed to Add")
			a.turns(t, 1, isHeld, true)
			a.ends(t, 3, true)
			a.tells(t, "and behind other calls")
		}
	}
}

// What Get answers is the caller's: to change, with its spare room, and to keep.
func TestR3TheWriteThatGetAnswers(t *testing.T) {
	for _, size := range []int{0, 1, 16, 128, 5000} {
		want := flight.Write{Ticket: 7, Span: at(3, 2), Data: sample.Bytes(size)}
		a := of(t, want, write(8, at(9, 1)))
		kept, _ := a.f.Get(7)
		changed, _ := a.f.Get(7)
		other, _ := a.f.Get(7)
		_ = append(changed.Data, 1, 2, 3)
		sample.Spoil(changed.Data)
		changed.Ticket, changed.Span, changed.State = 8, at(9, 1), isHeld
		if !same(other, want) {
			t.Fatalf("of %d bytes: a change of the one answer turned the other to %v", size, other)
		}
		a.tells(t, "behind a change of what Get answered")
		a.finds(t, "behind a change of what Get answered", sample.SmallSpans(12)...)
		a.turns(t, 7, isAgain, true)
		a.ends(t, 7, true)
		a.adds(t, write(7, at(3, 2)), true)
		if !same(kept, want) {
			t.Fatalf("of %d bytes: what Get answered is %v behind other calls", size, kept)
		}
	}
}

// spoils: the list, with the data of each, and all spare room, becomes something else.
func spoils(list []flight.Write) {
	list = list[:cap(list)]
	for i := range list {
		sample.Spoil(list[i].Data)
		list[i] = flight.Write{Ticket: -1, Span: at(-1, -1), State: -1}
	}
}

// So is what List answers, and no two data of it share memory.
func TestR3TheListThatIsTold(t *testing.T) {
	for n := range 20 {
		a := of(t, sample.Mixed(beside(n))...)
		kept, changed, other := a.f.List(), a.f.List(), a.f.List()
		was := copied(kept)
		for i := range other {
			sample.Spoil(other[i].Data)
			if !slices.EqualFunc(other[i+1:], was[i+1:], same) {
				t.Fatalf("of %d: a change of the data at %d turned others: %v", n, i, other)
			}
		}
		_ = append(changed, write(1, at(1, 1)))
		spoils(changed)
		a.tells(t, "behind a change of what List told")
		a.finds(t, "behind a change of what List told", sample.SmallSpans(12)...)
		for i, w := range beside(n) {
			a.turns(t, w.Ticket, i%3, true)
		}
		for _, w := range beside(n) {
			a.ends(t, w.Ticket, true)
		}
		a.adds(t, write(1, at(0, 99)), true)
		if !slices.EqualFunc(kept, was, same) {
			t.Fatalf("what List told, %v, is %v behind other calls", was, kept)
		}
	}
}

// So is what Own answers.
func TestR3TheOwnThatIsTold(t *testing.T) {
	for n := range 20 {
		a := of(t, sample.Mixed(beside(n))...)
		kept, changed, other := a.f.Own(), a.f.Own(), a.f.Own()
		was := slices.Clone(kept)
		_ = append(changed, clash.Own{})
		changed = changed[:cap(changed)]
		for i := range changed {
			changed[i] = clash.Own{Span: at(-7, 7)}
		}
		if !slices.Equal(other, was) {
			t.Fatalf("Own: %v, is %v behind a change of another answer", was, other)
		}
		a.tells(t, "behind a change of what Own told")
		for _, w := range beside(n) {
			a.turns(t, w.Ticket, isAgain, true)
			a.ends(t, w.Ticket, true)
		}
		if !slices.Equal(kept, was) {
			t.Fatalf("what Own told, %v, is %v behind other calls", was, kept)
		}
	}
}

// What is only asked, again and again, is the same each time.
func TestR4WhatAsksChangesNothing(t *testing.T) {
	a := of(t, sample.Mixed(beside(40))...)
	for i, w := range beside(40) {
		a.turns(t, w.Ticket, i%3, true)
	}
	for range 20 {
		a.tells(t, "asked again", sample.Tickets()...)
		a.finds(t, "asked again", sample.SmallSpans(12)...)
	}
}

func TestR4FlightsGoTheirOwnWays(t *testing.T) {
	one, other := of(t, beside(20)...), of(t, sample.Falling(beside(30))...)
	for i, w := range sample.Mixed(beside(30)) {
		one.turned(t, w.Ticket, isAgain)
		other.tells(t, "the other", w.Ticket)
		one.ended(t, w.Ticket)
		other.tells(t, "the other", w.Ticket)
		other.finds(t, "the other", w.Span)
		other.added(t, write(w.Ticket+1, at(1000+i, 1)))
		one.tells(t, "the one", w.Ticket+1)
		one.finds(t, "the one", at(1000+i, 1))
	}
	if one.f.Len() != 0 || other.f.Len() != 60 {
		t.Errorf("Len of the one: %d, of the other: %d", one.f.Len(), other.f.Len())
	}
}

func TestR5FlightsThatNoCallMade(t *testing.T) {
	spans := slices.Concat(sample.SmallSpans(4), sample.Spans()[:60], sample.NoSpans()[:60])
	for _, f := range []*flight.Flights{nil, {}, new(flight.Flights)} {
		// Twice: no call makes them.
		for range 2 {
			for _, ticket := range append(sample.NoTickets(), sample.Tickets()...) {
				for _, s := range spans {
					if f.Add(ticket, s, nil) || f.Add(ticket, s, []byte{1}) || f.Busy(s) {
						t.Errorf("Add(%d, %v), or Busy: true", ticket, s)
					}
				}
				for _, state := range append(sample.Ends(), -1, 0, 1, 2, 3) {
					if f.Turn(ticket, state) {
						t.Errorf("Turn(%d, %d): true", ticket, state)
					}
				}
				if w, ok := f.Get(ticket); ok || !same(w, flight.Write{}) || w.Data != nil {
					t.Errorf("Get(%d): %v, %v, want none", ticket, w, ok)
				}
				if f.End(ticket) {
					t.Errorf("End(%d): true", ticket)
				}
				if f.List() != nil || f.Own() != nil || f.Extents() != 0 || f.Len() != 0 {
					t.Errorf("List %v, Own %v, Extents %x, Len %d, want nil, nil, 0, 0", f.List(), f.Own(), f.Extents(), f.Len())
				}
			}
		}
		if f != nil && fmt.Sprint(*f) != fmt.Sprint(flight.Flights{}) {
			t.Errorf("Flights that no call made became %v", *f)
		}
	}
}
