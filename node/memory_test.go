package node_test

import (
	"bytes"
	"fmt"
	"math"
	"slices"
	"testing"

	"twain/api"
	"twain/node"
	"twain/pack"
	"twain/sample"
	"twain/wire"
)

// The bytes handed to Submit are not changed, with the room behind their end, and are not kept, be the request taken, refused or wrong: what waits, flies, or is tried again has what they were.
func TestR3BytesHandedToSubmit(t *testing.T) {
	for who := range 2 {
		for _, state := range states() {
			for _, size := range []int{0, 31, 32, 33} {
				h, f := in(t, who, state)
				b, memory := sample.WithRoom(sample.Bytes(size), 99, 40)
				was := bytes.Clone(memory)
				ticket, err := h.submits(t, "with room", sample.Write(2, 2, b))
				if !bytes.Equal(memory, was) {
					t.Fatalf("node %d in state %d: Submit of %d bytes changed what was handed in", who, state, size)
				}
				sample.Spoil(b)
				if err != api.OK {
					continue
				}
				h.stands(t, "what was handed in is changed")
				switch state {
				case api.Greeting:
					h.hears(t, "it serves", f, sample.Greet(2, true), end())
				case api.Source, api.Target:
					h.copies(t, f)
				case api.Frozen:
					h.carries(t, "it serves", f, f.s.Tick())
				}
				h.sends(t, "it serves", f)
				h.answers(t, "it serves", f, sample.Answer(isRetry, ticket), sample.Data(ticket, 2, was[:32]))
				if !h.has(2, was[:32]) {
					t.Fatalf("node %d in state %d: other bytes are there", who, state)
				}
			}
		}
	}
}

// The bytes handed to Take are not changed, with the room behind their end, and are not kept: what waits here, and what is stored, has what they were.
func TestR3BytesHandedToTake(t *testing.T) {
	h, f := in(t, 1, api.Connected)
	own := h.asks(t, "an own one", write(1, 2, 2))
	h.sends(t, "an own one", f)
	for i, m := range []api.Message{sample.Data(9, 8, bytesFor(9, 2)), sample.Data(10, 3, bytesFor(10, 2)), sample.Data(11, 4, bytesFor(11, 3))} {
		b, memory := sample.WithRoom(f.packet(m), 99, 40)
		was := bytes.Clone(memory)
		h.takes(t, "with room", b)
		if !bytes.Equal(memory, was) {
			t.Fatalf("%d: Take changed what was handed in", i)
		}
		sample.Spoil(b)
		h.stands(t, "what was handed in is changed")
	}
	h.sends(t, "both", f)
	h.answers(t, "the own one ends", f, sample.Answer(isAck, own), sample.Answer(isAck, 10))
	if !h.has(8, bytesFor(9, 2)) || !h.has(3, bytesFor(10, 1)) {
		t.Fatalf("other bytes are there")
	}
	for _, state := range states() {
		h, f := in(t, 0, state)
		for _, b := range [][]byte{f.s.Tick()[0], farOf(t, 50).s.Tick()[0], sample.Bytes(40), {}} {
			b, memory := sample.WithRoom(b, 99, 40)
			was := bytes.Clone(memory)
			h.takes(t, "with room", b)
			if !bytes.Equal(memory, was) {
				t.Fatalf("state %d: Take changed what was handed in", state)
			}
			sample.Spoil(memory)
			h.stands(t, "what was handed in is changed")
		}
	}
}

// What Poll tells is the caller's, each list of it: whoever changes it changes neither the node, nor the disk, nor what is told later, or was ahead.
func TestR3WhatPollTells(t *testing.T) {
	for who := range 2 {
		h, f := in(t, who, api.Connected)
		var kept []api.Done
		for i := range 4 {
			h.asks(t, "a read", sample.Read(2, 2))
			h.asks(t, "a read", sample.Read(2, 2))
			h.asks(t, "a flush", sample.Flush())
			if i == 0 {
				kept = h.polls(t, "kept")
				continue
			}
			done := h.polls(t, "to be changed")
			was := fmt.Sprint(done[1])
			_ = append(done[0].Data, 1, 2, 3)
			sample.Spoil(done[0].Data)
			if fmt.Sprint(done[1]) != was {
				t.Fatalf("two lists of one answer share memory: %v", done)
			}
			sample.Spoil(done[1].Data)
			done = done[:cap(done)]
			for j := range done {
				done[j] = api.Done{Ticket: -77, Data: []byte{77}}
			}
			h.stands(t, "what was told is changed")
		}
		ticket := h.asks(t, "a write", write(1, 2, 2))
		h.sends(t, "a write", f)
		h.hears(t, "a write", f, sample.Answer(isAck, ticket))
		h.ends(t, "a write", ticket)
		if want := area(sample.Knowing(24, 0, 0), 2, 2); !alikeDones(kept, []api.Done{{Ticket: 1<<24 + 1, Data: want}, {Ticket: 1<<24 + 2, Data: want}, {Ticket: 1<<24 + 3}}) {
			t.Fatalf("what was told ahead became %v", kept)
		}
	}
}

// So is what Mail tells.
func TestR3WhatMailTells(t *testing.T) {
	for who := range 2 {
		c := config()
		c.Table, c.Window, c.Hot = 16, 64, 16
		h := halfWith(t, c, who, sample.Knowing(24, 0, 0))
		f := h.goesTo(t, api.Connected)
		for i := range 4 {
			h.asks(t, "a write", write(i, 4*i, 2))
			if i%2 == 0 {
				h.ticks(t, "a tick")
			}
		}
		kept := h.mails(t, "kept")
		was := fmt.Sprint(kept)
		for range 3 {
			h.ticks(t, "to be changed")
			list := h.mails(t, "to be changed")
			for i, b := range list {
				next := fmt.Sprint(list[i+1:])
				_ = append(b, 1, 2, 3)
				sample.Spoil(b)
				if fmt.Sprint(list[i+1:]) != next {
					t.Fatalf("two packets of one answer share memory")
				}
			}
			list = list[:cap(list)]
			for i := range list {
				list[i] = nil
			}
			h.stands(t, "what was told is changed")
		}
		if fmt.Sprint(kept) != was {
			t.Fatalf("what was told ahead became %v", kept)
		}
		if _, heard := f.takes(t, "kept", kept); len(heard) != 4 {
			t.Fatalf("the far one heard %v", sample.ShownAll(heard))
		}
	}
}

// So are the tickets that Requests and Flying tell.
func TestR3WhatRequestsAndFlyingTell(t *testing.T) {
	h, _ := in(t, 1, api.Connected)
	h.asks(t, "it flies", write(1, 2, 2))
	h.asks(t, "it flies", write(2, 8, 2))
	h.asks(t, "it waits", write(3, 3, 1))
	for range 2 {
		requests, flying := h.n.Requests(), h.n.Flying()
		_, _ = append(requests, 9), append(flying, 9)
		sample.Spoil(requests)
		if !slices.Equal(flying, []int{1<<24 + 1, 1<<24 + 2}) {
			t.Fatalf("Requests and Flying share memory: %v", flying)
		}
		sample.Spoil(flying)
		h.stands(t, "what was told is changed")
	}
}

// Two nodes go their own ways: what is done to one is nothing to the other.
func TestR4NodesGoTheirOwnWays(t *testing.T) {
	var halves []*half
	var fars []*far
	for i := range 4 {
		halves = append(halves, halfWith(t, config(), i%2, sample.Knowing(24, 0, 0)))
		fars = append(fars, farOf(t, 7))
	}
	for i, w := range sample.Words()[130:900] {
		halves[i%4].alone(t, fmt.Sprintf("step %d, of the one", i), w, &fars[i%4])
		for j, h := range halves {
			h.stands(t, fmt.Sprintf("step %d, of number %d", i, j))
		}
	}
}

// The same calls, on disks that are alike, tell the same, and leave them alike.
func TestR4TheSameAgain(t *testing.T) {
	for who := range 2 {
		one, other := halfOf(t, who), halfOf(t, who)
		f, g := farOf(t, 7), farOf(t, 7)
		for i, w := range sample.Words()[130:] {
			what := fmt.Sprintf("step %d", i)
			if got, again := one.alone(t, what, w, &f), other.alone(t, what, w, &g); got != again || one.tells() != other.tells() {
				t.Fatalf("%s: %s, %s, and again %s, %s", what, got, one.tells(), again, other.tells())
			}
			if done, again := one.polls(t, what), other.polls(t, what); !alikeDones(done, again) {
				t.Fatalf("%s: Poll: %v, and again %v", what, done, again)
			}
			if list, again := one.mails(t, what), other.mails(t, what); !slices.EqualFunc(list, again, bytes.Equal) {
				t.Fatalf("%s: Mail: %v, and again %v", what, list, again)
			}
			if !sample.Alike(one.d, other.d) {
				t.Fatalf("%s: the disks are not alike", what)
			}
		}
	}
}

// Two nodes on one disk: each start is of a boot of its own, and each has its own requests.
func TestR4TwoOnOneDisk(t *testing.T) {
	d := sample.Disk(24)
	one, _ := node.New(config(), 0, d)
	other, _ := node.New(config(), 1, d)
	if one.Start() != api.OK || other.Start() != api.OK || one.Boot() != 1 || other.Boot() != 2 {
		t.Fatalf("Boot %d, %d", one.Boot(), other.Boot())
	}
	a, _ := one.Submit(sample.Flush())
	b, _ := other.Submit(sample.Flush())
	if a != 1<<24+1 || b != 2<<24+1 || !slices.Equal(one.Requests(), []int{a}) || !slices.Equal(other.Requests(), []int{b}) {
		t.Fatalf("tickets %d, %d; Requests %v, %v", a, b, one.Requests(), other.Requests())
	}
	one.Stop()
	if one.Status() != api.Down || other.Status() != api.Greeting {
		t.Fatalf("Status %d, %d", one.Status(), other.Status())
	}
}

// noNode: all calls of a Node that no call made.
func noNode(t *testing.T, n *node.Node) {
	t.Helper()
	if err := n.Start(); err != api.ErrMade {
		t.Errorf("Start: %v", err)
	}
	for _, r := range append(sample.NoRequests(16), sample.Read(0, 1), write(1, 2, 2), sample.Flush()) {
		if ticket, err := n.Submit(r); ticket != 0 || err != api.ErrMade {
			t.Errorf("Submit(%d, %v): %d, %v", r.Kind, r.Span, ticket, err)
		}
	}
	for _, b := range append(sample.Lists(), wire.Bytes(api.Packet{From: 5, Kind: wire.Hello}), wire.Bytes(api.Packet{From: 5, To: 1, Kind: wire.Msg, Seq: 1, Body: pack.Bytes(end())})) {
		n.Take(b)
	}
	n.Tick()
	n.Stop()
	if n.Poll() != nil || n.Mail() != nil {
		t.Errorf("Poll %v, Mail %v", n.Poll(), n.Mail())
	}
	if got, want := told(n.Status(), n.Boot(), n.Peer(), n.Requests(), n.Flying(), n.Unacked(), n.Left()), told(api.Down, 0, 0, nil, nil, 0, 0); got != want {
		t.Errorf("%s, want %s", got, want)
	}
	if n.Requests() != nil || n.Flying() != nil {
		t.Errorf("Requests %v, Flying %v", n.Requests(), n.Flying())
	}
}

func TestR5ANodeThatNoCallMade(t *testing.T) {
	for _, n := range []*node.Node{nil, {}, new(node.Node)} {
		// Twice: no call makes it.
		for range 2 {
			noNode(t, n)
		}
		if n != nil && *n != (node.Node{}) {
			t.Errorf("a Node that no call made became %+v", *n)
		}
	}
}

// Each number, request, packet and message that may not be, and some that may, at nodes of all settings and in all states; none panics.
func TestR1WhateverIsGiven(t *testing.T) {
	numbers := append(append(sample.NoExtents(), sample.Ends()...), 0, 1, 2, 3, 4, 16, 63)
	for i, c := range append(sample.Settings(), sample.NoSettings()...) {
		for _, size := range []int{0, 1, 8, 12, 24, 264, api.MaxDisk} {
			for _, who := range numbers {
				makes(t, "whatever", c, who, sample.Disk(size))
			}
			h, err := makes(t, "whatever", c, i%2, sample.Disk(size))
			if err == api.OK {
				whatever(t, h, numbers)
			}
		}
	}
}

// whatever: all calls with whatever there is, between starts, stops and crashes.
func whatever(t *testing.T, h *half, numbers []int) {
	t.Helper()
	const what = "whatever"
	messages := sample.Mixed(sample.Messages())
	f := farOf(t, math.MaxUint32)
	requests := sample.NoRequests(h.plain.c.Sectors)
	for i := range 150 {
		n := numbers[i%len(numbers)]
		h.submits(t, what, requests[i*7%len(requests)])
		h.submits(t, what, api.Request{Kind: i % 4, Span: api.Span{Off: i % 9, Len: i % 6}, Data: sample.Bytes(i % 3 / 2 * (i % 6) * 16)})
		for _, b := range f.s.Send(pack.Bytes(messages[i%len(messages)])) {
			h.takes(t, what, b)
		}
		h.takes(t, what, sample.Bytes(i%60))
		h.takes(t, what, wire.Bytes(api.Packet{From: uint32(n), To: uint32(i % 4), Kind: i % 5, Seq: n, Ack: i, Body: sample.Bytes(i % 210)}))
		h.ticks(t, what)
		switch i % 20 {
		case 3:
			h.starts(t, what)
		case 5, 8, 11:
			f.takes(t, what, h.mails(t, what))
		case 13:
			h.fuse(n)
		case 17:
			h.polls(t, what)
		case 19:
			h.stops(t, what)
			h.crash(uint64(n))
		}
	}
}
