package outbox_test

import (
	"bytes"
	"fmt"
	"slices"
	"testing"

	"twain/api"
	"twain/outbox"
	"twain/sample"
)

// entry is a body under its number.
type entry struct {
	number int
	body   []byte
}

// plain is what an Out has by the chapter's words: a list of bodies, each beside its number.
type plain struct {
	window int
	next   int
	list   []entry
}

func (p *plain) push(body []byte) (int, bool) {
	mayGo := len(p.list) < p.window
	number := p.next
	p.list = append(p.list, entry{number, slices.Clone(body)})
	p.next++
	return number, mayGo
}

func (p *plain) onWay() []int {
	var list []int
	for i, e := range p.list {
		if i < p.window {
			list = append(list, e.number)
		}
	}
	return list
}

func (p *plain) acked(n int) []int {
	ahead := p.onWay()
	if !slices.Contains(ahead, n) {
		return nil
	}
	p.list = slices.DeleteFunc(p.list, func(e entry) bool { return e.number <= n })
	return slices.DeleteFunc(p.onWay(), func(number int) bool { return slices.Contains(ahead, number) })
}

func (p *plain) body(seq int) ([]byte, bool) {
	for _, e := range p.list {
		if e.number == seq {
			return e.body, true
		}
	}
	return nil, false
}

// pair is an Out, and the plain list that it is held against.
type pair struct {
	o *outbox.Out
	p *plain
}

// made: a new Out of that window.
func made(t *testing.T, window int) *outbox.Out {
	t.Helper()
	o, e := outbox.New(window)
	if o == nil || e != api.OK {
		t.Fatalf("New(%d): %v, %v", window, o, e)
	}
	return o
}

func both(t *testing.T, window int) pair {
	t.Helper()
	a := pair{made(t, window), &plain{window: window, next: 1}}
	a.tells(t, "new")
	return a
}

// of: a pair to which so many were pushed, the first ones of which, up to one that was on its way, are acked.
func of(t *testing.T, window, pushed, acked int) pair {
	t.Helper()
	a := both(t, window)
	for n := 1; n <= pushed; n++ {
		a.o.Push(word(n))
		a.p.push(word(n))
	}
	a.o.Acked(acked)
	a.p.acked(acked)
	if len(a.p.list) != pushed-acked {
		t.Fatalf("window %d, %d pushed, %d acked: there are %d", window, pushed, acked, len(a.p.list))
	}
	a.holds(t, fmt.Sprintf("%d pushed, %d acked", pushed, acked))
	return a
}

// word: a body that no other number has.
func word(n int) []byte { return fmt.Appendf(nil, "body %d", n) }

// holds: do Len, Full and Window tell what the plain list has?
func (a pair) holds(t *testing.T, what string) {
	t.Helper()
	n, full := len(a.p.list), len(a.p.list) >= a.p.window
	if gotN, gotFull := a.o.Len(), a.o.Full(); gotN != n || gotFull != full {
		t.Fatalf("%s, window %d: Len %d, Full %v, want %d, %v", what, a.p.window, gotN, gotFull, n, full)
	}
	if got, want := a.o.Window(), a.p.onWay(); !slices.Equal(got, want) {
		t.Fatalf("%s, window %d: Window %v, want %v", what, a.p.window, got, want)
	}
}

// tells: as holds, and does Body, of each number that is there, was there, or is not there yet, and at the ends?
func (a pair) tells(t *testing.T, what string) {
	t.Helper()
	a.holds(t, what)
	asked := sample.Ends()
	for seq := -2; seq <= a.p.next+2; seq++ {
		asked = append(asked, seq)
	}
	for _, seq := range asked {
		want, wantOk := a.p.body(seq)
		got, ok := a.o.Body(seq)
		if ok != wantOk || !bytes.Equal(got, want) || !ok && got != nil {
			t.Fatalf("%s, window %d: Body(%d): %q, %v, want %q, %v", what, a.p.window, seq, got, ok, want, wantOk)
		}
	}
}

// push: a Push, which answers what the plain list answers, and all that is told behind it.
func (a pair) push(t *testing.T, body []byte) (int, bool) {
	t.Helper()
	what := fmt.Sprintf("of %d up to %d, Push of %d bytes", len(a.p.list), a.p.next-1, len(body))
	want, wantMay := a.p.push(body)
	number, mayGo := a.o.Push(body)
	if number != want || mayGo != wantMay {
		t.Fatalf("%s, window %d: %d, %v, want %d, %v", what, a.p.window, number, mayGo, want, wantMay)
	}
	a.tells(t, what)
	return number, mayGo
}

// ack: an Acked, which answers what the plain list answers, and all that is told behind it.
func (a pair) ack(t *testing.T, n int) []int {
	t.Helper()
	what := fmt.Sprintf("of %d up to %d, Acked(%d)", len(a.p.list), a.p.next-1, n)
	ignored := !slices.Contains(a.p.onWay(), n)
	want := a.p.acked(n)
	got := a.o.Acked(n)
	if !slices.Equal(got, want) || ignored && got != nil {
		t.Fatalf("%s, window %d: %v, want %v", what, a.p.window, got, want)
	}
	a.tells(t, what)
	return got
}
