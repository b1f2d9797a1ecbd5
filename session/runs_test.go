package session_test

import (
	"bytes"
	"fmt"
	"math"
	"slices"
	"testing"

	"twain/api"
	"twain/sample"
	"twain/session"
)

// The boots of these tests: the node's, and the one that it hears first.
const (
	mine   = 50
	theirs = 80
)

// states: nodes of that window, from new ones to such as have sent, were acked and have taken, each way.
func states(window int) map[string]func(t *testing.T) node {
	start := func(t *testing.T) node { return fresh(t, mine, window, 3) }
	met := func(t *testing.T) node {
		n := start(t)
		n.hears(t, hello(theirs))
		return n
	}
	took := func(t *testing.T) node {
		n := met(t)
		n.hears(t, msg(theirs, mine, 1, 0, "x"))
		n.hears(t, msg(theirs, mine, 2, 0, "y"))
		return n
	}
	sent := func(from func(*testing.T) node, many, acked int) func(*testing.T) node {
		return func(t *testing.T) node {
			n := from(t)
			n.sends(t, many)
			for n.p.acked < acked {
				n.hears(t, ping(theirs, mine, n.p.acked+1))
			}
			return n
		}
	}
	silent := func(t *testing.T) node {
		n := sent(took, window+1, 0)(t)
		for range 3 {
			n.tick(t)
		}
		return n
	}
	return map[string]func(t *testing.T) node{
		"new":                                 start,
		"met":                                 met,
		"took two":                            took,
		"sent one":                            sent(met, 1, 0),
		"full":                                sent(took, window, 0),
		"one waits":                           sent(met, window+1, 0),
		"many wait":                           sent(took, 3*window+1, 0),
		"many wait, some are acked":           sent(took, 3*window, window),
		"all are acked":                       sent(met, window+1, window+1),
		"silent for longer than its patience": silent,
	}
}

// comes: each packet that may come to a node: from boots around its Peer, to boots around its own, and with each Seq and Ack that stands beside what it has.
func comes(p *plain) []api.Packet {
	last := p.acked
	if onWay := p.onWay(); len(onWay) > 0 {
		last = onWay[len(onWay)-1]
	}
	froms := []uint32{1, mine, p.peer + 1, p.peer + 2, math.MaxUint32}
	if p.peer > 1 {
		froms = append(froms, p.peer-1, p.peer)
	}
	var list []api.Packet
	for _, from := range froms {
		list = append(list, hello(from))
		for _, to := range []uint32{1, mine - 1, mine, mine + 1, from, math.MaxUint32} {
			for _, ack := range around(0, p.acked, last, len(p.sent)) {
				list = append(list, ping(from, to, ack))
				for _, seq := range around(1, p.taken, p.taken+1) {
					if seq > 0 {
						list = append(list, msg(from, to, seq, ack, "come"))
					}
				}
			}
		}
	}
	return list
}

// around: the numbers, those beside them, and the greatest; none twice, and none below 0.
func around(numbers ...int) []int {
	list := []int{math.MaxInt32}
	for _, n := range numbers {
		list = append(list, max(0, n-1), n, n+1)
	}
	slices.Sort(list)
	return slices.Compact(list)
}

// Each packet at each state: what it does, and what is told behind it.
func TestP22_3EachPacketAtEachState(t *testing.T) {
	many := 0
	for window := 1; window <= 3; window++ {
		for name, state := range states(window) {
			t.Run(fmt.Sprintf("window %d, %s", window, name), func(t *testing.T) {
				for _, p := range comes(state(t).p) {
					n := state(t)
					n.hears(t, p)
					n.tick(t)
					n.send(t, []byte("more"))
					n.hears(t, p)
					n.tick(t)
					many++
				}
			})
		}
	}
	if many < 5000 {
		t.Errorf("%d packets", many)
	}
}

// refusals: what a node is to refuse: packets of boots ahead of its Peer, bytes that are none, and bodies that may not be sent.
func refusals(t *testing.T, p *plain) (come, bodies [][]byte) {
	t.Helper()
	next := msg(p.peer+1, mine, p.taken+1, p.acked+1, "z")
	for _, now := range []api.Packet{next, hello(p.peer + 1), ping(p.peer+1, mine, p.acked+1)} {
		b := raw(t, now)
		come = append(come, nil, b[1:], b[:len(b)-1], append(b[:len(b):len(b)], 0), sample.Turned(b, 5, 1), sample.Turned(b, len(b)-1, 128))
	}
	for from := uint32(1); from < p.peer; from += 13 {
		for _, old := range []api.Packet{hello(from), ping(from, mine, 0), ping(from, mine, p.acked+1), ping(from, 1, 1), msg(from, mine, p.taken+1, p.acked+1, "z"), msg(from, mine, 1, 0, "z"), msg(from, 3, 1, 0, "z")} {
			come = append(come, raw(t, old))
		}
	}
	bodies = [][]byte{nil, {}, make([]byte, 201), make([]byte, 5000)}
	if p.peer == 0 {
		bodies = append(bodies, []byte("a"), make([]byte, 200))
	}
	return come, bodies
}

// What is refused changes nothing: behind such calls it is as the one of which they were not asked.
func TestP22_3WhatIsRefusedChangesNothing(t *testing.T) {
	for window := 1; window <= 3; window++ {
		for name, state := range states(window) {
			t.Run(fmt.Sprintf("window %d, %s", window, name), func(t *testing.T) {
				refused, spared := state(t), state(t)
				come, bodies := refusals(t, refused.p)
				for _, b := range come {
					if got, told := refused.s.Take(b); got.New || got.Has || got.Body != nil || told != nil {
						t.Fatalf("Take(%v): %+v, %v", b, got, told)
					}
					refused.stands(t, "behind what is refused")
				}
				for _, body := range bodies {
					if told := refused.s.Send(body); told != nil {
						t.Fatalf("Send of %d bytes: %v", len(body), told)
					}
					refused.stands(t, "behind what is refused")
				}
				for range 4 {
					one, other := refused.tick(t), spared.tick(t)
					if !slices.EqualFunc(one, other, bytes.Equal) {
						t.Fatalf("Tick: %s, and %s where nothing was refused", line(t, one), line(t, other))
					}
				}
			})
		}
	}
}

// steps: what is done with a node in a run.
func steps(t *testing.T) []func(node) {
	next := func(n node, ack int) api.Packet { return msg(n.p.peer, mine, n.p.taken+1, ack, "next") }
	onlyIfMet := func(do func(node)) func(node) {
		return func(n node) {
			if n.p.peer > 0 {
				do(n)
			}
		}
	}
	return []func(node){
		func(n node) { n.tick(t) },
		func(n node) { n.sends(t, 1) },
		func(n node) { n.hears(t, hello(max(1, n.p.peer))) },
		func(n node) { n.hears(t, ping(n.p.peer+1, mine, 0)) },
		func(n node) { n.hears(t, msg(n.p.peer+1, mine, 1, 1, "new")) },
		onlyIfMet(func(n node) { n.hears(t, next(n, n.p.acked+1)) }),
		onlyIfMet(func(n node) { n.hears(t, msg(n.p.peer, mine, n.p.taken+2, len(n.p.sent), "far")) }),
		onlyIfMet(func(n node) { n.hears(t, ping(n.p.peer, mine, n.p.acked+1)) }),
		onlyIfMet(func(n node) { n.hears(t, ping(n.p.peer, mine-1, n.p.acked+1)) }),
	}
}

func TestP22_3AllShortRuns(t *testing.T) {
	for window := 1; window <= 2; window++ {
		sample.AllRuns(5, func() node { return fresh(t, mine, window, 2) }, steps(t))
	}
}

// does: what a word chooses is done with a node: mostly something that goes on, and now and then something at an edge.
func does(t *testing.T, n node, w uint64) {
	t.Helper()
	low := int(w >> 8 % uint64(n.p.window+2))
	my, peer := n.s.My(), n.s.Peer()
	to := my
	if w>>16%8 == 0 {
		to = uint32(w>>20%uint64(2*my)) + 1
	}
	switch w % 16 {
	case 0, 1:
		n.tick(t)
	case 2, 3, 4, 5, 6:
		n.send(t, sample.Bytes(int(w>>12%210)))
	case 7:
		n.hears(t, hello(max(1, peer)))
	case 8:
		n.hears(t, ping(max(1, peer+uint32(w>>24%8/7)), to, n.p.acked+low))
	case 9, 10:
		n.hears(t, ping(max(1, peer), to, n.p.acked+low))
	case 11, 12, 13:
		n.hears(t, msg(max(1, peer), to, n.p.taken+1, n.p.acked+low, "next"))
	case 14:
		n.hears(t, msg(max(1, peer), to, max(1, n.p.taken+int(w>>8%8)-3), n.p.acked, "near"))
	case 15:
		n.hears(t, msg(max(1, peer/2), to, 1, 1, "old"))
	}
}

// More is sent than acked, and then less.
func TestP22_3LongRuns(t *testing.T) {
	for _, window := range []int{1, 2, 3, 7, 33, api.MaxWindow} {
		n := fresh(t, mine, window, 2)
		waited, took, acked, met := 0, 0, 0, uint32(0)
		for i, w := range sample.Words() {
			if i/50%2 == 0 {
				n.sends(t, int(w>>40%4))
			}
			does(t, n, w)
			if n.s.Len() > window {
				waited++
			}
			took, acked, met = max(took, n.p.taken), max(acked, n.p.acked), max(met, n.s.Peer())
		}
		if waited < 20 || took < 10 || acked < 10 || met < 3 {
			t.Errorf("window %d: %d times some waited; %d were taken, %d acked, of %d Peers", window, waited, took, acked, met)
		}
	}
}

// A row of very many that wait does not make each call slow, and each of them goes in the end.
func TestR1AVeryLongRow(t *testing.T) {
	const many = 20_000
	for _, window := range []int{1, api.MaxWindow} {
		s := made(t, mine, window, 3)
		s.Take(raw(t, hello(theirs)))
		went := 0
		goes := func(told [][]byte) {
			t.Helper()
			for _, p := range read(t, told) {
				if went++; p.Seq != went || !bytes.Equal(p.Body, word(went)) {
					t.Fatalf("window %d: %s, want the one behind %d", window, text(p), went-1)
				}
			}
		}
		for n := 1; n <= many; n++ {
			goes(s.Send(word(n)))
		}
		if s.Len() != many || went != window {
			t.Fatalf("window %d: Len %d, and %d went", window, s.Len(), went)
		}
		for acked := 1; acked <= many; acked++ {
			got, told := s.Take(raw(t, ping(theirs, mine, acked)))
			came(t, "a Ping", got, session.Got{})
			goes(told)
		}
		if s.Len() != 0 || went != many {
			t.Fatalf("window %d: Len %d, and %d went", window, s.Len(), went)
		}
	}
}
