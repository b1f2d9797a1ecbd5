package session_test

import (
	"bytes"
	"testing"

	"twain/api"
	"twain/sample"
	"twain/session"
)

// nothing: is what every call answers of a Session that no call made nothing?
func nothing(t *testing.T, s *session.Session) {
	t.Helper()
	if s.My() != 0 || s.Peer() != 0 || s.Alive() || s.Full() || s.Len() != 0 {
		t.Fatalf("My %d, Peer %d, Alive %v, Full %v, Len %d, want 0 and false", s.My(), s.Peer(), s.Alive(), s.Full(), s.Len())
	}
}

func TestR5ASessionThatNoCallMade(t *testing.T) {
	bodies := [][]byte{nil, {}, {1}, sample.Bytes(200), sample.Bytes(201)}
	come := [][]byte{nil, {}, sample.Bytes(23)}
	for _, p := range []api.Packet{hello(1), ping(1, 1, 0), ping(2, 2, 1), msg(1, 2, 1, 0, "a"), msg(2, 1, 1, 1, "a")} {
		come = append(come, raw(t, p))
	}
	steps := []func(*session.Session){
		func(s *session.Session) {
			for _, body := range bodies {
				if told := s.Send(body); told != nil {
					t.Fatalf("Send: %v", told)
				}
			}
		},
		func(s *session.Session) {
			if told := s.Tick(); told != nil {
				t.Fatalf("Tick: %v", told)
			}
		},
		func(s *session.Session) {
			for _, b := range come {
				if got, told := s.Take(b); got.New || got.Has || got.Body != nil || told != nil {
					t.Fatalf("Take: %+v, %v", got, told)
				}
			}
		},
		func(s *session.Session) { nothing(t, s) },
	}
	for _, s := range []*session.Session{nil, {}, new(session.Session)} {
		for length := range 6 {
			sample.AllRuns(length, func() *session.Session { return s }, steps)
		}
		for range 300 {
			steps[1](s)
		}
		nothing(t, s)
	}
}

// busy: a node that has heard and taken, with some on their way, and some that wait.
func busy(t *testing.T) node {
	t.Helper()
	n := fresh(t, 5, 3, 4)
	n.hears(t, hello(8))
	n.hears(t, msg(8, 5, 1, 0, "x"))
	n.sends(t, 6)
	n.hears(t, ping(8, 5, 1))
	return n
}

// The body handed to Send is the caller's: it is not changed, with the room behind its end, and may be changed.
func TestR3TheBodyHandedToSend(t *testing.T) {
	for _, size := range []int{0, 1, 8, 199, 200, 201} {
		for _, room := range []int{0, 1, 40} {
			n := fresh(t, 5, 2, 3)
			n.hears(t, hello(8))
			body, memory := sample.WithRoom(sample.Bytes(size), 9, room)
			was := bytes.Clone(memory)
			for range 4 {
				n.send(t, body)
			}
			if !bytes.Equal(memory, was) {
				t.Fatalf("Send changed a body of %d bytes, with room for %d", size, room)
			}
			sample.Spoil(body)
			n.tick(t)
			n.hears(t, ping(8, 5, 2))
			n.tick(t)
		}
	}
}

// The bytes handed to Take are the caller's, too, and what came by them is new memory.
func TestR3TheBytesHandedToTake(t *testing.T) {
	for _, p := range []api.Packet{hello(8), hello(9), ping(8, 5, 2), ping(9, 5, 2), msg(8, 5, 2, 2, "body"), msg(9, 5, 1, 0, "body"), msg(8, 5, 2, 0, string(sample.Bytes(200)))} {
		for _, room := range []int{0, 1, 40} {
			n := busy(t)
			b, memory := sample.WithRoom(raw(t, p), 9, room)
			was := bytes.Clone(memory)
			got, told := n.take(t, b)
			if !bytes.Equal(memory, was) {
				t.Fatalf("Take of %s changed what was handed in", text(p))
			}
			kept := line(t, told)
			sample.Spoil(b)
			if got.Has && !bytes.Equal(got.Body, p.Body) {
				t.Fatalf("%s: Body is %v behind a change of what was handed in", text(p), got.Body)
			}
			says(t, "behind a change of what was handed in", told, kept)
			n.tick(t)
			n.sends(t, 2)
			n.tick(t)
		}
	}
}

// spoils: each list that was told is written over, with its spare room, and the others stay as they are; then the list of them.
func spoils(t *testing.T, told [][]byte) {
	t.Helper()
	var was [][]byte
	for _, b := range told {
		was = append(was, bytes.Clone(b))
	}
	for i, b := range told {
		_ = append(b, 1, 2, 3)
		sample.Spoil(b)
		for j := i + 1; j < len(told); j++ {
			if !bytes.Equal(told[j], was[j]) {
				t.Fatalf("packet %d is %v behind a change of packet %d", j, told[j], i)
			}
		}
	}
	told = told[:cap(told)]
	for i := range told {
		told[i] = []byte{77}
	}
}

// What is told is the caller's: to change, with its spare room, and to keep.
func TestR3WhatIsTold(t *testing.T) {
	for _, do := range []func(n node) [][]byte{
		func(n node) [][]byte { return n.tick(t) },
		func(n node) [][]byte { return n.send(t, word(9)) },
		func(n node) [][]byte { n.hears(t, ping(8, 5, 4)); return n.send(t, sample.Bytes(200)) },
		func(n node) [][]byte { _, told := n.hears(t, ping(8, 5, 3)); return told },
		func(n node) [][]byte { _, told := n.hears(t, msg(8, 5, 2, 3, "y")); return told },
		func(n node) [][]byte { _, told := n.hears(t, msg(8, 5, 1, 4, "y")); return told },
		func(n node) [][]byte { _, told := n.hears(t, hello(8)); return told },
		func(n node) [][]byte { _, told := n.hears(t, hello(9)); return told },
		func(n node) [][]byte { n.hears(t, hello(9)); return n.tick(t) },
		func(n node) [][]byte { return fresh(t, 5, 1, 1).tick(t) },
	} {
		n := busy(t)
		kept := do(n)
		was := line(t, kept)
		again := busy(t)
		spoils(t, do(again))
		again.tick(t)
		again.hears(t, ping(8, 5, 2))
		again.sends(t, 1)
		again.tick(t)
		n.tick(t)
		n.hears(t, ping(8, 5, 2))
		spoils(t, n.tick(t))
		n.tick(t)
		says(t, "behind other calls", kept, was)
	}
}

func TestR3TheBodyThatCame(t *testing.T) {
	for _, size := range []int{1, 2, 8, 199, 200} {
		body := sample.Bytes(size)
		n := busy(t)
		kept, _ := n.hears(t, msg(8, 5, 2, 0, string(body)))
		changed, told := n.hears(t, msg(8, 5, 3, 2, string(body)))
		was := line(t, told)
		_ = append(changed.Body, 1, 2, 3)
		sample.Spoil(changed.Body)
		says(t, "behind a change of the Body", told, was)
		n.tick(t)
		later, _ := n.hears(t, msg(8, 5, 4, 0, string(body)))
		if !bytes.Equal(kept.Body, body) || !bytes.Equal(later.Body, body) {
			t.Fatalf("of %d bytes: Body is %v, and then %v", size, kept.Body, later.Body)
		}
	}
}

// My, Peer, Alive, Full and Len change nothing: behind the same steps it is as where they were not asked.
func TestP22_1AskingChangesNothing(t *testing.T) {
	steps := []func(s *session.Session) [][]byte{
		(*session.Session).Tick,
		func(s *session.Session) [][]byte { return s.Send([]byte("a")) },
		func(s *session.Session) [][]byte { _, told := s.Take(raw(t, hello(8))); return told },
		func(s *session.Session) [][]byte { return s.Send([]byte("b")) },
		func(s *session.Session) [][]byte { return s.Send([]byte("c")) },
		func(s *session.Session) [][]byte { _, told := s.Take(raw(t, msg(8, 5, 1, 1, "x"))); return told },
		(*session.Session).Tick,
		func(s *session.Session) [][]byte { _, told := s.Take(raw(t, ping(8, 5, 2))); return told },
		(*session.Session).Tick,
		(*session.Session).Tick,
		func(s *session.Session) [][]byte { _, told := s.Take(raw(t, hello(9))); return told },
		(*session.Session).Tick,
	}
	asked, silent := made(t, 5, 1, 2), made(t, 5, 1, 2)
	for i, step := range steps {
		for range i + 1 {
			asked.Len()
			asked.Alive()
			asked.Full()
			asked.Peer()
			asked.My()
		}
		if one, other := line(t, step(asked)), line(t, step(silent)); one != other {
			t.Fatalf("step %d: %s, and %s where nothing was asked", i, one, other)
		}
	}
	if asked.Len() != silent.Len() || asked.Alive() != silent.Alive() || asked.Full() != silent.Full() || asked.Peer() != silent.Peer() || asked.My() != silent.My() {
		t.Error("they are not the same in the end")
	}
}

// What is done with one is not to be seen in another, of the same boot or not.
func TestR4SessionsGoTheirOwnWays(t *testing.T) {
	nodes := []node{fresh(t, 5, 2, 3), fresh(t, 5, 2, 3), fresh(t, 8, 3, 2)}
	if nodes[0].s == nodes[1].s {
		t.Fatal("two News answer one Session")
	}
	words := sample.Words()
	for i, w := range words[130:1130] {
		n := nodes[w%3]
		does(t, n, w>>2)
		for _, other := range nodes {
			other.stands(t, "another one")
		}
		if i%50 == 0 {
			for _, other := range nodes {
				other.tick(t)
			}
		}
	}
}

// Two of the same boot, to which the same is done, are the same: it hangs on nothing else.
func TestR4TheSameIsTheSame(t *testing.T) {
	one, other := fresh(t, 5, 2, 3), fresh(t, 5, 2, 3)
	for _, w := range sample.Words() {
		does(t, one, w)
	}
	for _, w := range sample.Words() {
		does(t, other, w)
	}
	if a, b := line(t, one.tick(t)), line(t, other.tick(t)); a != b {
		t.Errorf("%s, and %s", a, b)
	}
}
