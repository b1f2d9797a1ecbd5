package outbox_test

import (
	"bytes"
	"math"
	"slices"
	"testing"

	"twain/api"
	"twain/outbox"
	"twain/sample"
)

// pushes: does a Push of the letter answer that?
func pushes(t *testing.T, o *outbox.Out, letter string, number int, mayGo bool) {
	t.Helper()
	if got, may := o.Push([]byte(letter)); got != number || may != mayGo {
		t.Errorf("Push(%q): %d, %v, want %d, %v", letter, got, may, number, mayGo)
	}
}

// acks: does an Acked tell these?
func acks(t *testing.T, o *outbox.Out, n int, want ...int) {
	t.Helper()
	if got := o.Acked(n); !slices.Equal(got, want) {
		t.Errorf("Acked(%d): %v, want %v", n, got, want)
	}
}

// stands: are just the letters there, from the number first on, full or not, and are these on their way?
func stands(t *testing.T, o *outbox.Out, first int, letters string, full bool, window ...int) {
	t.Helper()
	if o.Len() != len(letters) || o.Full() != full || !slices.Equal(o.Window(), window) {
		t.Errorf("of %q: Len %d, Full %v, Window %v, want %d, %v, %v", letters, o.Len(), o.Full(), o.Window(), len(letters), full, window)
	}
	for i := range letters {
		if b, ok := o.Body(first + i); !ok || string(b) != letters[i:i+1] {
			t.Errorf("Body(%d): %q, %v, want %q", first+i, b, ok, letters[i:i+1])
		}
	}
	for _, seq := range []int{0, first - 1, first + len(letters)} {
		if b, ok := o.Body(seq); ok || b != nil {
			t.Errorf("of %q from %d on: Body(%d): %q, %v, want none", letters, first, seq, b, ok)
		}
	}
}

func TestP19_1Example(t *testing.T) {
	o := made(t, 2)
	pushes(t, o, "a", 1, true)
	pushes(t, o, "b", 2, true)
	pushes(t, o, "c", 3, false)
	acks(t, o, 1, 3)
	stands(t, o, 2, "bc", true, 2, 3)
}

func TestP19_1AWindowOfOne(t *testing.T) {
	o := made(t, 1)
	stands(t, o, 1, "", false)
	pushes(t, o, "a", 1, true)
	stands(t, o, 1, "a", true, 1)
	pushes(t, o, "b", 2, false)
	pushes(t, o, "c", 3, false)
	stands(t, o, 1, "abc", true, 1)
	acks(t, o, 2)
	acks(t, o, 3)
	stands(t, o, 1, "abc", true, 1)
	acks(t, o, 1, 2)
	stands(t, o, 2, "bc", true, 2)
	acks(t, o, 1)
	acks(t, o, 2, 3)
	acks(t, o, 3)
	stands(t, o, 4, "", false)
	pushes(t, o, "d", 4, true)
	stands(t, o, 4, "d", true, 4)
}

func TestP19_1AWindowOfThree(t *testing.T) {
	o := made(t, 3)
	pushes(t, o, "a", 1, true)
	pushes(t, o, "b", 2, true)
	stands(t, o, 1, "ab", false, 1, 2)
	acks(t, o, 1)
	stands(t, o, 2, "b", false, 2)
	pushes(t, o, "c", 3, true)
	pushes(t, o, "d", 4, true)
	stands(t, o, 2, "bcd", true, 2, 3, 4)
	pushes(t, o, "e", 5, false)
	pushes(t, o, "f", 6, false)
	pushes(t, o, "g", 7, false)
	pushes(t, o, "h", 8, false)
	stands(t, o, 2, "bcdefgh", true, 2, 3, 4)
	acks(t, o, 3, 5, 6)
	stands(t, o, 4, "defgh", true, 4, 5, 6)
	acks(t, o, 6, 7, 8)
	stands(t, o, 7, "gh", false, 7, 8)
	pushes(t, o, "i", 9, true)
	stands(t, o, 7, "ghi", true, 7, 8, 9)
	acks(t, o, 9)
	stands(t, o, 10, "", false)
}

func TestP19_1New(t *testing.T) {
	for window := 1; window <= api.MaxWindow; window++ {
		o := made(t, window)
		stands(t, o, 1, "", false)
		pushes(t, o, "a", 1, true)
	}
	for _, window := range append(sample.Ends(), 0, -1, -2, -api.MaxWindow, api.MaxWindow+1, 2*api.MaxWindow) {
		if o, e := outbox.New(window); o != nil || e != api.ErrArg {
			t.Errorf("New(%d): %v, %v, want none, %v", window, o, e, api.ErrArg)
		}
	}
}

// Where there is nothing, one body fewer than the window, just the window, and more: the first ones may go at once, and no other.
func TestP19_1PushBehindSoMany(t *testing.T) {
	for window := 1; window <= api.MaxWindow; window++ {
		a := both(t, window)
		for n := 1; n <= 2*window+3; n++ {
			if number, mayGo := a.push(t, word(n)); number != n || mayGo != (n <= window) {
				t.Fatalf("window %d: Push: %d, %v, want %d, %v", window, number, mayGo, n, n <= window)
			}
			if a.o.Len() != n || a.o.Full() != (n >= window) || len(a.o.Window()) != min(n, window) {
				t.Fatalf("window %d: of %d: Len %d, Full %v, Window %v", window, n, a.o.Len(), a.o.Full(), a.o.Window())
			}
		}
	}
}

// What is acked makes room: whether a body may go at once hangs on how many there are, not on how many there were.
func TestP19_1PushBehindAcked(t *testing.T) {
	for _, window := range []int{1, 2, 3, 7, 20} {
		for pushed := 1; pushed <= window+2; pushed++ {
			for acked := range min(pushed, window) + 1 {
				a := of(t, window, pushed, acked)
				for range window + 1 {
					ahead := a.o.Len()
					if _, mayGo := a.push(t, []byte("more")); mayGo != (ahead < window) {
						t.Fatalf("window %d: Push behind %d: %v", window, ahead, mayGo)
					}
				}
			}
		}
	}
}

// Any bytes are a body: none, many, and the same ones again.
func TestP19_1Bodies(t *testing.T) {
	list := append(sample.Lists(), make([]byte, api.MaxBody), sample.Bytes(api.MaxBody+1), sample.Bytes(1<<16), sample.Bytes(1<<20), nil, []byte{}, []byte{0}, []byte{0}, nil)
	for _, window := range []int{1, 5, api.MaxWindow} {
		a := both(t, window)
		for _, body := range list {
			a.push(t, body)
		}
		for n, body := range list {
			if got, ok := a.o.Body(n + 1); !ok || !bytes.Equal(got, body) {
				t.Errorf("Body(%d): %d bytes, %v, want %d", n+1, len(got), ok, len(body))
			}
		}
		for n := range list {
			a.ack(t, n+1)
		}
		stands(t, a.o, len(list)+1, "", false)
	}
}

// Body tells each that is there, on its way or not, and none that is acked, or not pushed yet.
func TestP19_1Body(t *testing.T) {
	for _, window := range []int{1, 2, 5, api.MaxWindow} {
		for pushed := range window + 4 {
			for acked := range min(pushed, window) + 1 {
				a := of(t, window, pushed, acked)
				for seq := -1; seq <= pushed+2; seq++ {
					there := seq > acked && seq <= pushed
					b, ok := a.o.Body(seq)
					if ok != there || ok && !bytes.Equal(b, word(seq)) || !ok && b != nil {
						t.Fatalf("window %d, %d pushed, %d acked: Body(%d): %q, %v", window, pushed, acked, seq, b, ok)
					}
				}
			}
		}
	}
}

// From an Acked of the first one that is on its way to one of the last; where nothing else waits, and where fewer wait than then may go, just as many, and more.
func TestP19_2Acked(t *testing.T) {
	for _, window := range []int{1, 2, 3, 8, api.MaxWindow} {
		for _, waiting := range []int{0, 1, window / 2, window - 1, window, window + 1, 2*window + 1} {
			for n := 1; n <= window; n++ {
				a := of(t, window, window+waiting, 0)
				got := a.ack(t, n)
				var want []int
				for i := range min(n, waiting) {
					want = append(want, window+1+i)
				}
				if !slices.Equal(got, want) {
					t.Fatalf("window %d, %d wait: Acked(%d): %v, want %v", window, waiting, n, got, want)
				}
				if left := window + waiting - n; a.o.Len() != left || a.o.Full() != (left >= window) || len(a.o.Window()) != min(left, window) {
					t.Fatalf("window %d, %d wait: behind Acked(%d): Len %d, Full %v, Window %v", window, waiting, n, a.o.Len(), a.o.Full(), a.o.Window())
				}
				if next, _ := a.push(t, nil); next != window+waiting+1 {
					t.Fatalf("window %d, %d wait: Push behind Acked(%d): %d", window, waiting, n, next)
				}
			}
		}
	}
}

// With fewer there than the window nothing waits, and an Acked lets nothing go.
func TestP19_2AckedOfFewerThanTheWindow(t *testing.T) {
	for _, window := range []int{2, 3, 8, api.MaxWindow} {
		for pushed := 1; pushed <= window; pushed++ {
			for n := 1; n <= pushed; n++ {
				a := of(t, window, pushed, 0)
				if got := a.ack(t, n); len(got) != 0 {
					t.Fatalf("window %d, %d pushed: Acked(%d): %v", window, pushed, n, got)
				}
				if number, mayGo := a.push(t, []byte{1}); number != pushed+1 || !mayGo {
					t.Fatalf("window %d, %d pushed: Push behind Acked(%d): %d, %v", window, pushed, n, number, mayGo)
				}
			}
		}
	}
}

// What is not on its way is not acked: nothing, and nil, and nothing has changed.
func TestP19_2AckedOfNoneOnItsWay(t *testing.T) {
	for _, window := range []int{1, 2, 3, 8, api.MaxWindow} {
		for pushed := range 2*window + 2 {
			for acked := range min(pushed, window) + 1 {
				a := of(t, window, pushed, acked)
				wrong := append(sample.Ends(), 0, -1, -2, -acked, -pushed, acked-1, acked, acked+window+1, acked+window+2, pushed+1, pushed+2, pushed+window)
				for n := 1; n <= acked; n++ {
					wrong = append(wrong, n)
				}
				for n := acked + window + 1; n <= pushed; n++ {
					wrong = append(wrong, n)
				}
				for _, n := range wrong {
					if got := a.o.Acked(n); got != nil {
						t.Fatalf("window %d, %d pushed, %d acked: Acked(%d): %v, want nil", window, pushed, acked, n, got)
					}
				}
				a.tells(t, "behind Ackeds of none that is on its way")
			}
		}
	}
}

// An Acked that comes again, or too late, does nothing; one of a number that may go only now does.
func TestP19_2AckedAgain(t *testing.T) {
	a := of(t, 3, 7, 0)
	for _, c := range []struct {
		n    int
		want []int
	}{{4, nil}, {2, []int{4, 5}}, {2, nil}, {1, nil}, {6, nil}, {5, []int{6, 7}}, {3, nil}, {5, nil}, {8, nil}, {7, nil}, {7, nil}, {8, nil}, {math.MaxInt, nil}} {
		if got := a.ack(t, c.n); !slices.Equal(got, c.want) {
			t.Fatalf("Acked(%d): %v, want %v", c.n, got, c.want)
		}
	}
	if a.o.Len() != 0 {
		t.Errorf("Len %d, want 0", a.o.Len())
	}
}

func TestP19_2Window(t *testing.T) {
	for _, window := range []int{1, 2, 3, 8, api.MaxWindow} {
		for pushed := range 2*window + 2 {
			for acked := range min(pushed, window) + 1 {
				a := of(t, window, pushed, acked)
				var want []int
				for n := acked + 1; n <= min(pushed, acked+window); n++ {
					want = append(want, n)
				}
				if got := a.o.Window(); !slices.Equal(got, want) {
					t.Fatalf("window %d, %d pushed, %d acked: Window %v, want %v", window, pushed, acked, got, want)
				}
			}
		}
	}
}
