package later_test

import (
	"runtime"
	"slices"
	"testing"

	"twain/api"
	"twain/clash"
	"twain/later"
	"twain/sample"
)

// Each row of five steps, of Pushes of few spans, and of Nexts with own writes that keep all, some or none of them waiting; then all go.
func TestP25_1AllShortRuns(t *testing.T) {
	type run struct {
		pair
		came *int
	}
	push := func(s api.Span) func(run) {
		return func(r run) { *r.came++; r.push(t, write(*r.came, s)) }
	}
	next := func(own ...clash.Own) func(run) {
		return func(r run) { r.next(t, own...) }
	}
	steps := []func(run){
		push(at(0, 2)),
		push(at(1, 2)),
		push(at(4, 1)),
		push(at(2, 0)),
		next(),
		next(sent(1, 1)),
		next(unsent(1, 1), sent(2, 9)),
		next(sent(0, 9)),
	}
	var last run
	sample.AllRuns(5, func() run {
		if last.q != nil {
			last.drained(t)
		}
		last = run{both(t), new(int)}
		return last
	}, steps)
	last.drained(t)
}

// Queues of none to many, filled, emptied by Nexts with no own write, and then once more: what came first goes first.
func TestP25_2NoneToMany(t *testing.T) {
	for n := range 70 {
		a := both(t)
		for range 2 {
			for _, w := range beside(n) {
				a.push(t, w)
			}
			if got, want := a.drained(t), ids(beside(n)); !slices.Equal(got, want) {
				t.Fatalf("of %d went: %v", n, got)
			}
		}
	}
}

// One at each place of each number of them goes alone, while own writes keep all others waiting; then those go, in order.
func TestP25_2OneAtEachPlace(t *testing.T) {
	for n := 1; n <= 24; n++ {
		for i, w := range beside(n) {
			a := of(t, beside(n)...)
			own := []clash.Own{sent(0, w.Span.Off), unsent(0, 1000), sent(w.Span.Off+w.Span.Len, 1000)}
			a.goes(t, i, own...)
			a.stays(t, own...)
			a.push(t, write(n, w.Span))
			a.goes(t, n, own...)
			if got, want := a.drained(t), slices.Delete(ids(beside(n)), i, i+1); !slices.Equal(got, want) {
				t.Fatalf("of %d, %d gone, went: %v", n, i, got)
			}
		}
	}
}

// chosenOwn: none to three own writes that a word chooses, most of them Sent.
func chosenOwn(w uint64, sectors int) []clash.Own {
	var own []clash.Own
	for i := range w >> 58 % 4 {
		own = append(own, clash.Own{Span: sample.ChosenSpan(w<<(7*i+1)^w>>(5*i+2), sectors), Sent: w>>(3*i)%4 > 0})
	}
	return own
}

// Pushes and Nexts without a pattern, of few sectors and of many, while more come than go and while more go than come. The ids count what came: by them alone it is seen that none goes ahead of one that might have gone and came ahead of it.
func TestP25_2LongRuns(t *testing.T) {
	words := sample.Words()
	for _, sectors := range []int{4, 12, 40, api.MaxSectors, sample.MostSectors} {
		a := both(t)
		waiting := map[int]api.Span{}
		met := map[string]int{}
		for id, w := range words {
			pushes := w%8 < 5
			if id/300%2 == 1 {
				pushes = w%8 < 2
			}
			if pushes {
				waiting[id] = sample.ChosenSpan(w, sectors)
				a.push(t, write(id, waiting[id]))
				met["pushed"]++
				continue
			}
			own := chosenOwn(w, sectors)
			got, ok := a.next(t, own...)
			delete(waiting, got.Id)
			for other, s := range waiting {
				if (!ok || other < got.Id) && !keepWaiting(own, s) {
					t.Fatalf("Next(%v): %v, %v, though %d of %v might have gone", own, got, ok, other, s)
				}
				if ok && other < got.Id {
					met["ahead of another"]++
				}
			}
			if ok {
				met["gone"]++
			} else {
				met["none"]++
			}
			a.finds(t, "behind a step", sample.ChosenSpan(w>>3^w<<20, sectors), sample.ChosenSpan(w>>5^w<<11, sectors))
		}
		rest := a.drained(t)
		if !slices.IsSorted(rest) || len(rest) != len(waiting) {
			t.Fatalf("of %d sectors, all others went: %v, where %d waited", sectors, rest, len(waiting))
		}
		if met["pushed"] < 300 || met["gone"] < 300 || met["none"] < 30 || (sectors <= 40 && met["ahead of another"] < 30) {
			t.Errorf("of %d sectors: %v", sectors, met)
		}
	}
}

// Very many: no call is slow, wherever what goes stands, as far as it need not be looked for.
func TestR1VeryMany(t *testing.T) {
	const many = 200_000
	q := later.New()
	for id := range many {
		if !q.Push(id, at(2*id, 2), []byte{byte(id)}) {
			t.Fatalf("Push(%d): false", id)
		}
	}
	if spans := q.Spans(); q.Len() != many || len(spans) != many || spans[many-1] != at(2*many-2, 2) || !q.Over(at(2*many-1, 1)) || q.Over(at(2*many, 9)) {
		t.Errorf("Len %d, Spans of %d", q.Len(), len(spans))
	}
	// The first three wait, and all others go, while some come.
	own := []clash.Own{sent(0, 6)}
	for id := 3; id < many; id++ {
		if w, ok := q.Next(own); !ok || w.Id != id || w.Span != at(2*id, 2) || w.Data[0] != byte(id) {
			t.Fatalf("Next: %v, %v, want %d", w, ok, id)
		}
		if id%4 == 0 && !q.Push(-id, at(5, 1), nil) {
			t.Fatalf("Push(%d): false", -id)
		}
	}
	if _, ok := q.Next(own); ok || q.Len() != 3+many/4-1 {
		t.Errorf("none may go: %v, Len %d", ok, q.Len())
	}
	for id := range 3 {
		if w, ok := q.Next(nil); !ok || w.Id != id {
			t.Fatalf("Next: %v, %v, want %d", w, ok, id)
		}
	}
	for id := 4; id < many; id += 4 {
		if w, ok := q.Next(nil); !ok || w.Id != -id {
			t.Fatalf("Next: %v, %v, want %d", w, ok, -id)
		}
	}
	if q.Len() != 0 || q.Spans() != nil || q.Over(at(0, sample.MostSectors)) {
		t.Errorf("all gone: Len %d", q.Len())
	}
}

// heap: how many bytes are held.
func heap() int {
	var m runtime.MemStats
	runtime.GC()
	runtime.ReadMemStats(&m)
	return int(m.HeapAlloc)
}

// The data of writes that went are held no longer, wherever those stood.
func TestP25_1DataThatWentAreLetGo(t *testing.T) {
	const size, many = 1 << 16, 400
	q, data := later.New(), make([]byte, size)
	was := heap()
	for id := range many {
		q.Push(id, at(id, 1), data)
	}
	for i := range many - 10 {
		q.Next([]clash.Own{sent(0, i%7)})
	}
	if grown := heap() - was; q.Len() != 10 || grown > 30*size {
		t.Errorf("%d of %d are left: %d bytes are held, of data of %d each", q.Len(), many, grown, size)
	}
	runtime.KeepAlive(q)
}

// Nor is the room in which very many stood, once few are left and others come; nor does it grow while as many come as go.
func TestP25_1RoomIsLetGo(t *testing.T) {
	const many = 500_000
	q := later.New()
	was := heap()
	for id := range many {
		q.Push(id, at(0, 1), nil)
	}
	for range many - 10 {
		q.Next(nil)
	}
	for _, pairs := range []int{1, many} {
		for id := range pairs {
			q.Push(id, at(0, 1), nil)
			q.Next(nil)
		}
		if grown := heap() - was; q.Len() != 10 || grown > many {
			t.Errorf("%d of %d are left: %d bytes are held", q.Len(), many, grown)
		}
	}
	runtime.KeepAlive(q)
}
