package outbox_test

import (
	"bytes"
	"runtime"
	"slices"
	"testing"

	"twain/api"
	"twain/outbox"
	"twain/sample"
)

// ledger is what P19.3 says of an Out, by what its calls answered alone.
type ledger struct {
	o                           *outbox.Out
	window, pushed, acked, went int
}

// goes: these may go now: the next ones, one by one.
func (l *ledger) goes(t *testing.T, numbers ...int) {
	t.Helper()
	for _, n := range numbers {
		if l.went++; n != l.went {
			t.Fatalf("window %d: %d may go, want %d", l.window, n, l.went)
		}
	}
}

func (l *ledger) push(t *testing.T) {
	t.Helper()
	number, mayGo := l.o.Push(word(l.pushed + 1))
	if l.pushed++; number != l.pushed {
		t.Fatalf("window %d: Push: %d, want %d", l.window, number, l.pushed)
	}
	if mayGo {
		l.goes(t, number)
	}
	l.balances(t)
}

func (l *ledger) ack(t *testing.T, n int) {
	t.Helper()
	told := l.o.Acked(n)
	if n > l.acked && n <= l.went {
		l.acked = n
	} else if told != nil {
		t.Fatalf("window %d: Acked(%d), while those behind %d up to %d are on their way: %v", l.window, n, l.acked, l.went, told)
	}
	l.goes(t, told...)
	l.balances(t)
}

// balances: are no more than window beyond what is acked, and does none wait that might go? And is what is on its way just what may go and is not acked?
func (l *ledger) balances(t *testing.T) {
	t.Helper()
	if l.went != min(l.pushed, l.acked+l.window) {
		t.Fatalf("window %d, %d pushed, %d acked: %d went", l.window, l.pushed, l.acked, l.went)
	}
	var onWay []int
	for n := l.acked + 1; n <= l.went; n++ {
		onWay = append(onWay, n)
	}
	if got := l.o.Window(); !slices.Equal(got, onWay) {
		t.Fatalf("window %d: Window %v, want %v", l.window, got, onWay)
	}
	if there := l.pushed - l.acked; l.o.Len() != there || l.o.Full() != (there >= l.window) {
		t.Fatalf("window %d: of %d: Len %d, Full %v", l.window, there, l.o.Len(), l.o.Full())
	}
	// What is on its way can be sent again, until it is acked.
	for _, n := range []int{l.acked + 1, l.went, l.pushed} {
		if b, ok := l.o.Body(n); n > l.acked && n <= l.pushed && (!ok || !bytes.Equal(b, word(n))) {
			t.Fatalf("window %d: Body(%d): %q, %v", l.window, n, b, ok)
		}
	}
	if b, ok := l.o.Body(l.acked); ok {
		t.Fatalf("window %d: Body(%d), which is acked: %q", l.window, l.acked, b)
	}
}

func TestP19_3AllShortRuns(t *testing.T) {
	steps := []func(*ledger){
		func(l *ledger) { l.push(t) },
		func(l *ledger) { l.push(t); l.push(t) },
		func(l *ledger) { l.ack(t, l.acked+1) },
		func(l *ledger) { l.ack(t, l.acked+2) },
		func(l *ledger) { l.ack(t, l.went) },
		func(l *ledger) { l.ack(t, l.pushed) },
		func(l *ledger) { l.ack(t, l.acked) },
	}
	for window := 1; window <= 3; window++ {
		sample.AllRuns(5, func() *ledger { return &ledger{o: made(t, window), window: window} }, steps)
	}
}

// The same against the plain list, with all bodies.
func TestP19_2AllShortRuns(t *testing.T) {
	steps := []func(pair){
		func(a pair) { a.push(t, word(a.p.next)) },
		func(a pair) { a.push(t, nil); a.push(t, []byte{1}) },
		func(a pair) { a.ack(t, a.p.next-len(a.p.list)) },
		func(a pair) { a.ack(t, a.p.next-len(a.p.list)+1) },
		func(a pair) { a.ack(t, a.p.next-1) },
	}
	for window := 1; window <= 3; window++ {
		sample.AllRuns(6, func() pair { return both(t, window) }, steps)
	}
}

// chosen: the number that a word chooses for an Acked: mostly one that is on its way, and now and then one beside them.
func chosen(w uint64, l *ledger) int {
	switch w >> 8 % 16 {
	case 0:
		return l.acked
	case 1:
		return l.went + 1
	case 2:
		return l.acked - int(w>>16%5)
	case 3:
		return l.pushed + int(w>>16%5)
	case 4:
		return l.went
	case 5:
		return int(w)
	}
	return l.acked + 1 + int(w>>16%uint64(l.window))
}

// Long runs of no pattern; more are pushed than acked, then more acked than pushed.
func TestP19_3LongRuns(t *testing.T) {
	words := sample.Words()
	for _, window := range []int{1, 2, 3, 4, 7, 16, 33, api.MaxWindow - 1, api.MaxWindow} {
		l := &ledger{o: made(t, window), window: window}
		empty, waited := 0, 0
		for i, w := range words {
			if w%8 < 7 && i/200%2 == 0 || w%8 < 1 {
				for range 1 + w>>40%uint64(window) {
					l.push(t)
				}
			} else {
				l.ack(t, chosen(w, l))
			}
			if l.pushed == l.acked {
				empty++
			}
			if l.pushed > l.went {
				waited++
			}
		}
		if empty < 3 || waited < 100 {
			t.Errorf("window %d: %d times there was nothing, %d times some waited", window, empty, waited)
		}
	}
}

func TestP19_2LongRuns(t *testing.T) {
	words := sample.Words()
	for _, window := range []int{1, 2, 5, 16, api.MaxWindow} {
		a := both(t, window)
		for i, w := range words[130:730] {
			if w%8 < 6 && i/100%2 == 0 || w%8 < 2 {
				a.push(t, sample.Bytes(int(w>>40%9)))
			} else {
				first := a.p.next - len(a.p.list)
				a.ack(t, first-2+int(w>>16%uint64(window+4)))
			}
		}
	}
}

// Numbers rise by one, also behind an Acked that left nothing there, at each fill.
func TestP19_3BehindNothing(t *testing.T) {
	for _, window := range []int{1, 2, 3, 8, api.MaxWindow} {
		l := &ledger{o: made(t, window), window: window}
		for fill := range window + 3 {
			for range fill {
				l.push(t)
			}
			for l.acked < l.pushed {
				l.ack(t, l.went)
			}
			if l.o.Len() != 0 || len(l.o.Window()) != 0 {
				t.Fatalf("window %d: behind all was acked: Len %d, Window %v", window, l.o.Len(), l.o.Window())
			}
			l.ack(t, l.pushed)
			l.ack(t, l.pushed+1)
		}
	}
}

// A row of very many that wait does not make each call slow.
func TestR1AVeryLongRow(t *testing.T) {
	const many = 50_000
	for _, window := range []int{1, api.MaxWindow} {
		l := &ledger{o: made(t, window), window: window}
		for range many {
			l.push(t)
		}
		for range many {
			l.ack(t, l.acked+1)
			l.push(t)
		}
		for l.acked < l.pushed {
			l.ack(t, l.went)
		}
		if l.pushed != 2*many || l.o.Len() != 0 {
			t.Errorf("window %d: %d pushed, Len %d", window, l.pushed, l.o.Len())
		}
	}
}

// heap: how many bytes are held.
func heap() int {
	var m runtime.MemStats
	runtime.GC()
	runtime.ReadMemStats(&m)
	return int(m.HeapAlloc)
}

// Bodies that are acked are held no longer: neither while others wait, nor while some come and go.
func TestP19_2AckedBodiesAreLetGo(t *testing.T) {
	const size, many = 1 << 16, 400
	body := make([]byte, size)
	for _, window := range []int{1, 10, api.MaxWindow} {
		o := made(t, window)
		was := heap()
		for range many {
			o.Push(body)
		}
		for n := 1; n <= many-10; n++ {
			o.Acked(n)
		}
		if grown := heap() - was; grown > 30*size {
			t.Errorf("window %d: %d of %d are left: %d bytes are held, of bodies of %d", window, o.Len(), many, grown, size)
		}
		for n := 1; n <= many; n++ {
			o.Push(body)
			o.Acked(many - 10 + n)
		}
		if grown := heap() - was; grown > 30*size {
			t.Errorf("window %d: %d are left behind some came and went: %d bytes are held, of bodies of %d", window, o.Len(), grown, size)
		}
		runtime.KeepAlive(o)
	}
}

// Nor is the row in which very many stood, once one more is pushed behind few that are left.
func TestP19_2ALongRowIsLetGo(t *testing.T) {
	const many = 200_000
	for _, window := range []int{1, api.MaxWindow} {
		for left := range min(window, 3) {
			o := made(t, window)
			was := heap()
			for range many {
				o.Push(nil)
			}
			for o.Len() > left {
				onWay := o.Window()
				o.Acked(onWay[min(len(onWay), o.Len()-left)-1])
			}
			o.Push(nil)
			if grown := heap() - was; o.Len() != left+1 || grown > many {
				t.Errorf("window %d: %d are left of %d: %d bytes are held", window, o.Len()-1, many, grown)
			}
			runtime.KeepAlive(o)
		}
	}
}

// The body handed to Push is the caller's: it is not changed, with the room behind its end, and may be changed.
func TestR3TheBodyHandedToPush(t *testing.T) {
	for _, size := range []int{0, 1, 8, 200, 5000} {
		for _, room := range []int{0, 1, 40} {
			body, memory := sample.WithRoom(sample.Bytes(size), 9, room)
			was := bytes.Clone(memory)
			a := both(t, 2)
			for range 4 {
				a.push(t, body)
			}
			a.ack(t, 1)
			if !bytes.Equal(memory, was) {
				t.Fatalf("Push changed a body of %d bytes, with room for %d", size, room)
			}
			sample.Spoil(body)
			a.tells(t, "behind a change of what was handed to Push")
			a.ack(t, 3)
			a.tells(t, "and behind an Acked")
		}
	}
}

// What Body answers is the caller's: to change, with its spare room, and to keep.
func TestR3TheBodyThatIsTold(t *testing.T) {
	for _, size := range []int{0, 1, 8, 200, 5000} {
		want := sample.Bytes(size)
		a := both(t, 2)
		for range 4 {
			a.push(t, want)
		}
		for seq := 1; seq <= 4; seq++ {
			kept, _ := a.o.Body(seq)
			changed, _ := a.o.Body(seq)
			_ = append(changed, 1, 2, 3)
			sample.Spoil(changed)
			a.tells(t, "behind a change of what Body told")
			a.ack(t, seq)
			a.push(t, want)
			if !bytes.Equal(kept, want) {
				t.Fatalf("of %d bytes: what Body(%d) told is %v behind other calls", size, seq, kept)
			}
		}
	}
}

// So is what Window and Acked answer.
func TestR3TheNumbersThatAreTold(t *testing.T) {
	for _, window := range []int{1, 2, 5, api.MaxWindow} {
		a := of(t, window, 5*window, 0)
		for n := window; n <= 3*window; n += window {
			kept, changed, other := a.o.Window(), a.o.Window(), a.o.Window()
			was := slices.Clone(kept)
			_ = append(changed, 1, 2, 3)
			sample.Spoil(changed)
			if !slices.Equal(other, was) {
				t.Fatalf("Window: %v, is %v behind a change of another answer", was, other)
			}
			a.tells(t, "behind a change of what Window told")
			went := a.ack(t, n)
			wentWas := slices.Clone(went)
			if len(went) != window || !slices.Equal(kept, was) {
				t.Fatalf("window %d: Acked(%d): %v; what Window told, %v, is %v", window, n, went, was, kept)
			}
			a.push(t, nil)
			a.o.Window()
			if !slices.Equal(went, wentWas) {
				t.Fatalf("what Acked told, %v, is %v behind other calls", wentWas, went)
			}
			_ = append(went, 1, 2, 3)
			sample.Spoil(went)
			a.tells(t, "behind a change of what Acked told")
		}
	}
}

func TestR4OutsGoTheirOwnWays(t *testing.T) {
	one, other := both(t, 2), both(t, 3)
	for n := 1; n <= 20; n++ {
		one.push(t, word(n))
		other.tells(t, "the other")
		other.push(t, word(-n))
		other.push(t, nil)
		one.tells(t, "the one")
		one.ack(t, n)
		other.tells(t, "the other")
		other.ack(t, n+1)
		one.tells(t, "the one")
	}
}

func TestR5AnOutThatNoCallMade(t *testing.T) {
	for _, o := range []*outbox.Out{nil, {}, new(outbox.Out)} {
		// Twice: no call makes it.
		for range 2 {
			for _, body := range [][]byte{nil, {}, {1}, sample.Bytes(300)} {
				if n, mayGo := o.Push(body); n != 0 || mayGo {
					t.Errorf("Push(%v): %d, %v, want 0, false", body, n, mayGo)
				}
				for _, n := range append(sample.Ends(), -1, 0, 1, 2) {
					if got := o.Acked(n); got != nil {
						t.Errorf("Acked(%d): %v, want nil", n, got)
					}
					if b, ok := o.Body(n); ok || b != nil {
						t.Errorf("Body(%d): %v, %v, want none", n, b, ok)
					}
				}
				if o.Window() != nil || o.Len() != 0 || o.Full() {
					t.Errorf("Window %v, Len %d, Full %v, want nil, 0, false", o.Window(), o.Len(), o.Full())
				}
			}
		}
	}
}
