package session_test

import (
	"math"
	"testing"

	"twain/api"
	"twain/sample"
	"twain/session"
	"twain/wire"
)

// line: what was told, in few words.
func line(t *testing.T, told [][]byte) string {
	t.Helper()
	return text(read(t, told)...)
}

// says: was just that told?
func says(t *testing.T, what string, told [][]byte, want string) {
	t.Helper()
	if got := line(t, told); got != want {
		t.Fatalf("%s: told: %s; want: %s", what, got, want)
	}
}

func TestP22_3Example(t *testing.T) {
	s := made(t, 2, 2, 3)
	got, told := s.Take(wire.Bytes(api.Packet{From: 1, Kind: wire.Hello}))
	came(t, "a Hello from boot 1 at boot 2", got, session.Got{New: true})
	says(t, "a Hello from boot 1 at boot 2", told, "ping 2>1 ack 0")
	if s.My() != 2 || s.Peer() != 1 || !s.Alive() || s.Full() || s.Len() != 0 {
		t.Errorf("My %d, Peer %d, Alive %v, Full %v, Len %d", s.My(), s.Peer(), s.Alive(), s.Full(), s.Len())
	}
}

// Two sessions that hear each other: each packet is written out, and all that is asked behind each call.
func TestP22_3TwoSessions(t *testing.T) {
	a, b := made(t, 2, 2, 3), made(t, 1, 2, 3)
	asked := func(what string, s *session.Session, my, peer uint32, alive, full bool, size int) {
		t.Helper()
		if s.My() != my || s.Peer() != peer || s.Alive() != alive || s.Full() != full || s.Len() != size {
			t.Fatalf("%s: My %d, Peer %d, Alive %v, Full %v, Len %d, want %d, %d, %v, %v, %d", what, s.My(), s.Peer(), s.Alive(), s.Full(), s.Len(), my, peer, alive, full, size)
		}
	}
	// takes: the only packet that was told comes to s.
	takes := func(s *session.Session, told [][]byte, want session.Got, answers string) [][]byte {
		t.Helper()
		if len(told) != 1 {
			t.Fatalf("%d packets were told", len(told))
		}
		got, answer := s.Take(told[0])
		came(t, line(t, told), got, want)
		says(t, line(t, told), answer, answers)
		return answer
	}
	says(t, "nobody to send to", a.Send([]byte("nobody")), "")
	asked("new", a, 2, 0, true, false, 0)

	first := a.Tick()
	says(t, "the first Tick", first, "hello 2")
	answer := takes(b, first, session.Got{New: true}, "ping 1>2 ack 0")
	asked("b has heard a", b, 1, 2, true, false, 0)
	takes(a, answer, session.Got{New: true}, "")
	asked("a has heard b", a, 2, 1, true, false, 0)

	one := a.Send([]byte("one"))
	says(t, "Send", one, `msg 2>1 1 ack 0 "one"`)
	asked("one is sent", a, 2, 1, true, false, 1)
	answer = takes(b, one, session.Got{Has: true, Body: []byte("one")}, "ping 1>2 ack 1")
	takes(b, one, session.Got{}, "ping 1>2 ack 1")
	takes(a, answer, session.Got{}, "")
	asked("one is acked", a, 2, 1, true, false, 0)

	two, three, four := a.Send([]byte("two")), a.Send([]byte("three")), a.Send([]byte("four"))
	says(t, "Send", two, `msg 2>1 2 ack 0 "two"`)
	says(t, "Send", three, `msg 2>1 3 ack 0 "three"`)
	says(t, "Send while the window is full", four, "")
	asked("three are there", a, 2, 1, true, true, 3)
	takes(b, three, session.Got{}, "ping 1>2 ack 1")
	says(t, "Tick, with more than the window", a.Tick(), `msg 2>1 2 ack 0 "two", msg 2>1 3 ack 0 "three"`)

	x := b.Send([]byte("x"))
	says(t, "Send of b", x, `msg 1>2 1 ack 1 "x"`)
	takes(a, x, session.Got{Has: true, Body: []byte("x")}, "ping 2>1 ack 1")
	answer = takes(b, two, session.Got{Has: true, Body: []byte("two")}, "ping 1>2 ack 2")
	next := takes(a, answer, session.Got{}, `msg 2>1 4 ack 1 "four"`)
	asked("two is acked", a, 2, 1, true, true, 2)
	takes(b, next, session.Got{}, "ping 1>2 ack 2")
	asked("x is acked by a Msg that lies ahead", b, 1, 2, true, false, 0)
	takes(b, three, session.Got{Has: true, Body: []byte("three")}, "ping 1>2 ack 3")
	answer = takes(b, next, session.Got{Has: true, Body: []byte("four")}, "ping 1>2 ack 4")
	takes(a, answer, session.Got{}, "")
	asked("all are acked", a, 2, 1, true, false, 0)
	says(t, "Tick, with nothing on its way", a.Tick(), "ping 2>1 ack 1")
	says(t, "Tick, with nothing on its way", b.Tick(), "ping 1>2 ack 4")
}

// What is wrong is told whatever else is wrong, and beside it there is no session.
func TestP22_1NewOfWhatMayNotBe(t *testing.T) {
	boots := []uint32{0, 1, 2, 1 << 31, math.MaxUint32}
	numbers := append(sample.Ends(), -2, -1, 0, 1, 2, 63, 64, 65, 66, 99, 100, 101, 102, 128, 256, 257, 320)
	met := 0
	for _, my := range boots {
		for _, window := range numbers {
			for _, patience := range numbers {
				want := api.OK
				if my == 0 || window < 1 || window > 64 || patience < 1 || patience > 100 {
					want = api.ErrArg
				}
				s, e := session.New(my, window, patience)
				if e != want || (s != nil) != (want == api.OK) {
					t.Fatalf("New(%d, %d, %d): %v, %v, want %v", my, window, patience, s, e, want)
				}
				if want != api.OK {
					met++
					nothing(t, s)
				}
			}
		}
	}
	if met < 1000 {
		t.Errorf("%d that may not be", met)
	}
}

// Both ends of each, one at a time and all together; it has what it was given.
func TestP22_1New(t *testing.T) {
	for _, my := range []uint32{1, 2, 255, 256, 0x01020304, 1<<31 - 1, 1 << 31, math.MaxUint32 - 1, math.MaxUint32} {
		for _, window := range []int{1, 2, 63, api.MaxWindow} {
			for _, patience := range []int{1, 2, 99, api.MaxPatience} {
				n := fresh(t, my, window, patience)
				n.tick(t)
				n.hears(t, hello(7))
				n.sends(t, window+2)
				n.tick(t)
				for range patience + 1 {
					n.tick(t)
				}
				n.hears(t, ping(7, my, 1))
				n.tick(t)
			}
		}
	}
}

// A session's numbers have all their bytes in what it tells.
func TestP22_1FromAndTo(t *testing.T) {
	boots := []uint32{1, 2, 255, 256, 0x01020304, 1 << 31, math.MaxUint32 - 1, math.MaxUint32}
	for _, my := range boots {
		for _, peer := range boots {
			s := made(t, my, 1, 1)
			tells(t, "Tick", s.Tick(), []api.Packet{hello(my)})
			got, told := s.Take(raw(t, hello(peer)))
			came(t, "Hello", got, session.Got{New: true})
			tells(t, "Take", told, []api.Packet{ping(my, peer, 0)})
			tells(t, "Tick", s.Tick(), []api.Packet{ping(my, peer, 0)})
			tells(t, "Send", s.Send([]byte("a")), []api.Packet{msg(my, peer, 1, 0, "a")})
			tells(t, "Tick", s.Tick(), []api.Packet{msg(my, peer, 1, 0, "a")})
			if s.My() != my || s.Peer() != peer {
				t.Fatalf("My %d, Peer %d, want %d, %d", s.My(), s.Peer(), my, peer)
			}
		}
	}
}

func TestP22_2SendAheadOfAnyPeer(t *testing.T) {
	n := fresh(t, 5, 3, 2)
	for _, size := range []int{0, 1, 2, 199, 200, 201} {
		if told := n.send(t, sample.Bytes(size)); len(told) != 0 || n.s.Len() != 0 {
			t.Fatalf("Send of %d bytes without a Peer: %s, Len %d", size, line(t, told), n.s.Len())
		}
		says(t, "Tick", n.tick(t), "hello 5")
	}
	n.hears(t, hello(1))
	says(t, "Tick: nothing was kept", n.tick(t), "ping 5>1 ack 0")
	says(t, "the first Send", n.send(t, []byte("a")), `msg 5>1 1 ack 0 "a"`)
}

func TestP22_2SizesOfABody(t *testing.T) {
	n := fresh(t, 5, 64, 2)
	n.hears(t, hello(1))
	number := 0
	for _, size := range []int{0, 1, 2, 100, 199, 200, 201, 0, 202, 256, 257, 223, 224, 400, 456, 1, 1 << 16, 1<<16 + 1, 200} {
		body := sample.Bytes(size)
		told := n.send(t, body)
		if size < 1 || size > api.MaxBody {
			if len(told) != 0 || n.s.Len() != number {
				t.Fatalf("Send of %d bytes: %s, Len %d", size, line(t, told), n.s.Len())
			}
			continue
		}
		number++
		tells(t, "Send", told, []api.Packet{msg(5, 1, number, 0, string(body))})
		if n.s.Len() != number {
			t.Fatalf("Send of %d bytes: Len %d, want %d", size, n.s.Len(), number)
		}
	}
	if list := n.tick(t); len(list) != number {
		t.Errorf("Tick: %d packets, want %d", len(list), number)
	}
	empty := [][]byte{nil, {}, make([]byte, 0, 300), sample.Bytes(5)[:0]}
	for _, body := range empty {
		if told := n.send(t, body); len(told) != 0 || n.s.Len() != number {
			t.Errorf("Send of nothing: %s, Len %d", line(t, told), n.s.Len())
		}
	}
	for size := range 300 {
		n.send(t, make([]byte, size))
	}
}

// What waits is told once there is room, and no earlier: one by one, and several at once.
func TestP22_2SendWhileTheWindowIsFull(t *testing.T) {
	for _, window := range []int{1, 2, 3, 8, api.MaxWindow} {
		for step := 1; step <= window; step++ {
			n := fresh(t, 5, window, 2)
			n.hears(t, hello(9))
			for number := 1; number <= 3*window; number++ {
				told := n.send(t, word(number))
				if (len(told) == 1) != (number <= window) || n.s.Full() != (number >= window) || n.s.Len() != number {
					t.Fatalf("window %d, Send %d: %d packets, Full %v, Len %d", window, number, len(told), n.s.Full(), n.s.Len())
				}
			}
			for acked := step; acked <= 3*window; acked += step {
				_, told := n.hears(t, ping(9, 5, acked))
				if want := min(3*window, acked+window) - min(3*window, acked-step+window); len(told) != want || n.s.Len() != 3*window-acked {
					t.Fatalf("window %d, %d are acked: %d packets, want %d; Len %d", window, acked, len(told), want, n.s.Len())
				}
				n.tick(t)
			}
		}
	}
}

func TestP22_2Tick(t *testing.T) {
	n := fresh(t, 5, 3, 100)
	for range 4 {
		says(t, "without a Peer", n.tick(t), "hello 5")
	}
	n.hears(t, hello(9))
	for range 4 {
		says(t, "with nothing on its way", n.tick(t), "ping 5>9 ack 0")
	}
	n.hears(t, msg(9, 5, 1, 0, "x"))
	says(t, "behind one was taken", n.tick(t), "ping 5>9 ack 1")
	n.send(t, []byte("a"))
	for range 4 {
		says(t, "with one on its way", n.tick(t), `msg 5>9 1 ack 1 "a"`)
	}
	n.send(t, []byte("b"))
	n.send(t, []byte("c"))
	const three = `msg 5>9 1 ack 1 "a", msg 5>9 2 ack 1 "b", msg 5>9 3 ack 1 "c"`
	says(t, "with the window on its way", n.tick(t), three)
	n.send(t, []byte("d"))
	n.send(t, []byte("e"))
	says(t, "with more than the window", n.tick(t), three)
	n.hears(t, msg(9, 5, 2, 1, "y"))
	says(t, "behind one was acked, and one taken", n.tick(t), `msg 5>9 2 ack 2 "b", msg 5>9 3 ack 2 "c", msg 5>9 4 ack 2 "d"`)
	n.hears(t, ping(9, 5, 4))
	says(t, "with the last one", n.tick(t), `msg 5>9 5 ack 2 "e"`)
	n.hears(t, ping(9, 5, 5))
	says(t, "behind all were acked", n.tick(t), "ping 5>9 ack 2")
}

// As many ticks as patience without a word: with a Peer and without one, and whatever the session sends itself.
func TestP22_1Alive(t *testing.T) {
	for _, patience := range []int{1, 2, 3, 50, 99, api.MaxPatience} {
		for peer := range uint32(2) {
			n := fresh(t, 5, 3, patience)
			if peer > 0 {
				n.hears(t, hello(peer))
			}
			for ticks := range patience + 5 {
				if n.s.Alive() != (ticks < patience) {
					t.Fatalf("patience %d, %d ticks: Alive %v", patience, ticks, n.s.Alive())
				}
				n.tick(t)
				n.send(t, []byte("a"))
			}
			n.hears(t, ping(2, 5, 0))
			if !n.s.Alive() {
				t.Fatalf("patience %d: not alive behind a word", patience)
			}
		}
	}
}

// What is a word: a new Peer's packet, whoever it is for, and one of the Peer's that is for this boot; of the Peer's others, and of boots ahead of it, none is.
func TestP22_3WhatIsAWord(t *testing.T) {
	const my, peer = 5, 8
	for _, c := range []struct {
		p    api.Packet
		word bool
	}{
		{hello(9), true}, {ping(9, 4, 0), true}, {ping(9, my, 0), true}, {ping(9, 6, 0), true}, {msg(9, 4, 1, 0, "a"), true}, {msg(9, my, 1, 0, "a"), true}, {msg(9, my, 7, 7, "a"), true},
		{ping(peer, my, 0), true}, {ping(peer, my, 1), true}, {ping(peer, my, 7), true}, {msg(peer, my, 1, 0, "a"), true}, {msg(peer, my, 7, 0, "a"), true},
		{hello(peer), false}, {ping(peer, 4, 0), false}, {ping(peer, 6, 0), false}, {ping(peer, peer, 0), false}, {msg(peer, 4, 1, 0, "a"), false}, {msg(peer, 6, 1, 0, "a"), false},
		{hello(7), false}, {ping(7, my, 0), false}, {ping(7, 4, 0), false}, {msg(7, my, 1, 0, "a"), false}, {msg(7, 4, 1, 1, "a"), false}, {hello(my), false}, {ping(my, my, 0), false}, {hello(1), false},
	} {
		n := fresh(t, my, 2, 3)
		n.hears(t, hello(peer))
		n.sends(t, 1)
		for range 3 {
			n.tick(t)
		}
		if n.s.Alive() {
			t.Fatal("alive behind three ticks")
		}
		if n.hears(t, c.p); n.s.Alive() != c.word {
			t.Errorf("%s: Alive %v, want %v", text(c.p), n.s.Alive(), c.word)
		}
	}
}

func TestP22_3WhatIsNoPacket(t *testing.T) {
	goods := []api.Packet{hello(9), ping(9, 5, 1), msg(9, 5, 1, 1, "abc"), msg(8, 5, 1, 0, "x"), msg(9, 5, 1, 1, string(sample.Bytes(api.MaxBody)))}
	n := fresh(t, 5, 2, 3)
	refuses := func(b []byte) {
		t.Helper()
		if got, told := n.take(t, b); got.New || got.Has || got.Body != nil || len(told) != 0 {
			t.Fatalf("Take(%v): %+v, %s", b, got, line(t, told))
		}
	}
	all := func() {
		t.Helper()
		for _, b := range append(sample.Lists(), make([]byte, 22), make([]byte, 23), sample.Bytes(23), sample.Bytes(223), sample.Bytes(224), make([]byte, 1<<16)) {
			refuses(b)
		}
		for _, p := range goods {
			b := raw(t, p)
			for size := range b {
				refuses(b[:size])
			}
			refuses(append(raw(t, p), 0))
			refuses(append([]byte{0}, b...))
			for place := range b {
				for bit := range 8 {
					refuses(sample.Turned(b, place, 1<<bit))
				}
				refuses(sample.Turned(b, place, 255))
			}
		}
	}
	all()
	if n.s.Peer() != 0 {
		t.Fatalf("Peer %d", n.s.Peer())
	}
	n.hears(t, hello(8))
	n.sends(t, 3)
	n.tick(t)
	all()
	says(t, "Tick behind it", n.tick(t), `msg 5>8 1 ack 0 "body 1", msg 5>8 2 ack 0 "body 2"`)
}

// New and Has in one Take, and New with what has no body for it.
func TestP22_3NewAndHas(t *testing.T) {
	for _, peer := range []uint32{0, 7} {
		for _, c := range []struct {
			p    api.Packet
			want session.Got
			told string
		}{
			{msg(9, 5, 1, 0, "a"), session.Got{New: true, Has: true, Body: []byte("a")}, "ping 5>9 ack 1"},
			{msg(9, 5, 1, 1, "a"), session.Got{New: true, Has: true, Body: []byte("a")}, "ping 5>9 ack 1"},
			{msg(9, 5, 1, math.MaxInt32, "a"), session.Got{New: true, Has: true, Body: []byte("a")}, "ping 5>9 ack 1"},
			{msg(9, 5, 2, 0, "a"), session.Got{New: true}, "ping 5>9 ack 0"},
			{msg(9, 5, math.MaxInt32, 0, "a"), session.Got{New: true}, "ping 5>9 ack 0"},
			{msg(9, 4, 1, 0, "a"), session.Got{New: true}, "ping 5>9 ack 0"},
			{msg(9, 9, 1, 0, "a"), session.Got{New: true}, "ping 5>9 ack 0"},
			{ping(9, 5, 0), session.Got{New: true}, ""},
			{ping(9, 5, 1), session.Got{New: true}, ""},
			{ping(9, 6, 1), session.Got{New: true}, "ping 5>9 ack 0"},
			{hello(9), session.Got{New: true}, "ping 5>9 ack 0"},
		} {
			n := fresh(t, 5, 2, 3)
			if peer != 0 {
				n.hears(t, hello(peer))
				n.hears(t, msg(peer, 5, 1, 0, "x"))
				n.sends(t, 3)
			}
			got, told := n.hears(t, c.p)
			came(t, text(c.p), got, c.want)
			says(t, text(c.p), told, c.told)
			if n.s.Peer() != 9 || n.s.Len() != 0 || n.s.Full() {
				t.Errorf("%s: Peer %d, Len %d, Full %v", text(c.p), n.s.Peer(), n.s.Len(), n.s.Full())
			}
		}
	}
}

// The Msgs that may go by an ack stand rising, and tell what was taken ahead of this packet; the Ping stands last, and tells of it.
func TestP22_3MsgsRisingAndAPingLast(t *testing.T) {
	n := fresh(t, 5, 3, 3)
	n.hears(t, hello(9))
	n.hears(t, msg(9, 5, 1, 0, "x"))
	n.sends(t, 8)
	_, told := n.hears(t, msg(9, 5, 2, 2, "y"))
	says(t, "an ack of two, and one more", told, `msg 5>9 4 ack 1 "body 4", msg 5>9 5 ack 1 "body 5", ping 5>9 ack 2`)
	_, told = n.hears(t, msg(9, 5, 2, 5, "y"))
	says(t, "an ack of three, and none more", told, `msg 5>9 6 ack 2 "body 6", msg 5>9 7 ack 2 "body 7", msg 5>9 8 ack 2 "body 8", ping 5>9 ack 2`)
	_, told = n.hears(t, ping(9, 5, 6))
	says(t, "a Ping's ack of one, with none that waits", told, "")
	_, told = n.hears(t, msg(9, 5, 9, 8, "z"))
	says(t, "an ack of the last one, and one that lies ahead", told, "ping 5>9 ack 2")
	if n.s.Len() != 0 {
		t.Errorf("Len %d", n.s.Len())
	}
}

// Of a new Peer both boxes are new: nothing that was sent to the boot ahead of it is told to it, its acks count from nothing, and numbers begin at 1 on both sides.
func TestP22_3ANewPeerHasBoxesOfItsOwn(t *testing.T) {
	for _, next := range []api.Packet{hello(9), ping(9, 4, 3), ping(9, 5, 1), ping(9, 5, 3), msg(9, 4, 4, 1, "q"), msg(9, 5, 4, 2, "q")} {
		n := fresh(t, 5, 2, 3)
		n.hears(t, hello(8))
		for seq, body := range []string{"x", "y", "z"} {
			n.hears(t, msg(8, 5, seq+1, 0, body))
		}
		n.sends(t, 5)
		n.hears(t, ping(8, 5, 1))
		says(t, "ahead", n.tick(t), `msg 5>8 2 ack 3 "body 2", msg 5>8 3 ack 3 "body 3"`)
		if got, _ := n.hears(t, next); !got.New || got.Has || n.s.Len() != 0 || n.s.Full() || n.s.Peer() != 9 {
			t.Fatalf("%s: %+v, Len %d, Full %v, Peer %d", text(next), got, n.s.Len(), n.s.Full(), n.s.Peer())
		}
		says(t, "nothing is left", n.tick(t), "ping 5>9 ack 0")
		says(t, "Send", n.send(t, []byte("a")), `msg 5>9 1 ack 0 "a"`)
		says(t, "Send", n.send(t, []byte("b")), `msg 5>9 2 ack 0 "b"`)
		says(t, "Send", n.send(t, []byte("c")), "")
		got, told := n.hears(t, msg(9, 5, 4, 0, "w"))
		came(t, "the number that was next", got, session.Got{})
		says(t, "the number that was next", told, "ping 5>9 ack 0")
		got, told = n.hears(t, msg(9, 5, 1, 1, "v"))
		came(t, "the first number", got, session.Got{Has: true, Body: []byte("v")})
		says(t, "the first number", told, `msg 5>9 3 ack 0 "c", ping 5>9 ack 1`)
		// What the boot ahead still has on its way is nothing any more.
		for _, late := range []api.Packet{hello(8), ping(8, 5, 2), msg(8, 5, 4, 3, "late"), msg(8, 5, 2, 2, "late")} {
			got, told = n.hears(t, late)
			came(t, text(late), got, session.Got{})
			says(t, text(late), told, "")
		}
	}
}

// The same boot is not new, however often it is heard, and however long it was not.
func TestP22_3ThePeerAgain(t *testing.T) {
	n := fresh(t, 5, 2, 3)
	n.hears(t, hello(8))
	n.hears(t, msg(8, 5, 1, 0, "x"))
	n.sends(t, 3)
	for range 3 {
		for _, p := range []api.Packet{hello(8), ping(8, 4, 2), ping(8, 5, 0), msg(8, 4, 2, 2, "y")} {
			if got, _ := n.hears(t, p); got.New || got.Has || n.s.Len() != 3 {
				t.Fatalf("%s: %+v, Len %d", text(p), got, n.s.Len())
			}
		}
		for range 5 {
			n.tick(t)
		}
	}
	got, _ := n.hears(t, msg(8, 5, 2, 2, "y"))
	came(t, "the next one", got, session.Got{Has: true, Body: []byte("y")})
}
