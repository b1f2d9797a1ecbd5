package session_test

import (
	"bytes"
	"fmt"
	"slices"
	"strings"
	"testing"

	"twain/api"
	"twain/session"
	"twain/wire"
)

// plain is a session by the chapter's words: all that was ever sent to the Peer, with how far it is acked, how far the Peer's was taken, and the ticks behind the last word.
type plain struct {
	my, peer         uint32
	window, patience int
	sent             [][]byte
	acked, taken     int
	silent           int
}

// onWay: the numbers of the first ones that are not acked, window of them at most.
func (p *plain) onWay() []int {
	var list []int
	for n := p.acked + 1; n <= len(p.sent) && len(list) < p.window; n++ {
		list = append(list, n)
	}
	return list
}

func (p *plain) ping() api.Packet { return ping(p.my, p.peer, p.taken) }

func (p *plain) msgs(numbers []int) []api.Packet {
	var list []api.Packet
	for _, n := range numbers {
		list = append(list, msg(p.my, p.peer, n, p.taken, string(p.sent[n-1])))
	}
	return list
}

func (p *plain) send(body []byte) []api.Packet {
	if p.peer == 0 || len(body) < 1 || len(body) > 200 {
		return nil
	}
	p.sent = append(p.sent, bytes.Clone(body))
	if number := len(p.sent); slices.Contains(p.onWay(), number) {
		return p.msgs([]int{number})
	}
	return nil
}

func (p *plain) tick() []api.Packet {
	p.silent++
	switch {
	case p.peer == 0:
		return []api.Packet{hello(p.my)}
	case len(p.onWay()) == 0:
		return []api.Packet{p.ping()}
	}
	return p.msgs(p.onWay())
}

func (p *plain) take(b []byte) (session.Got, []api.Packet) {
	var got session.Got
	come, e := wire.Parse(b)
	if e != api.OK || come.From < p.peer {
		return got, nil
	}
	if come.From > p.peer {
		got.New = true
		p.peer, p.sent, p.acked, p.taken, p.silent = come.From, nil, 0, 0, 0
	}
	if come.To != p.my {
		return got, []api.Packet{p.ping()}
	}
	p.silent = 0
	ahead := p.onWay()
	if slices.Contains(ahead, come.Ack) {
		p.acked = come.Ack
	}
	list := p.msgs(slices.DeleteFunc(p.onWay(), func(n int) bool { return slices.Contains(ahead, n) }))
	if come.Kind != 3 {
		return got, list
	}
	if come.Seq == p.taken+1 {
		p.taken++
		got.Has, got.Body = true, bytes.Clone(come.Body)
	}
	return got, append(list, p.ping())
}

// Packets by their kinds.
func hello(from uint32) api.Packet { return api.Packet{From: from, Kind: wire.Hello} }
func ping(from, to uint32, ack int) api.Packet {
	return api.Packet{From: from, To: to, Kind: wire.Ping, Ack: ack}
}
func msg(from, to uint32, seq, ack int, body string) api.Packet {
	return api.Packet{From: from, To: to, Kind: wire.Msg, Seq: seq, Ack: ack, Body: []byte(body)}
}

// raw: the bytes of a packet that may be.
func raw(t *testing.T, p api.Packet) []byte {
	t.Helper()
	b := wire.Bytes(p)
	if b == nil {
		t.Fatalf("%s: it is none", text(p))
	}
	return b
}

// text: a packet in few words.
func text(list ...api.Packet) string {
	var words []string
	for _, p := range list {
		switch p.Kind {
		case wire.Hello:
			words = append(words, fmt.Sprintf("hello %d", p.From))
		case wire.Ping:
			words = append(words, fmt.Sprintf("ping %d>%d ack %d", p.From, p.To, p.Ack))
		default:
			words = append(words, fmt.Sprintf("%s %d>%d %d ack %d %q", wire.Name(p.Kind), p.From, p.To, p.Seq, p.Ack, p.Body))
		}
	}
	return strings.Join(words, ", ")
}

// read: what wire reads in bytes that were told.
func read(t *testing.T, told [][]byte) []api.Packet {
	t.Helper()
	var list []api.Packet
	for _, b := range told {
		p, e := wire.Parse(b)
		if e != api.OK {
			t.Fatalf("told: %v, which is no packet: %v", b, e)
		}
		list = append(list, p)
	}
	return list
}

// tells: are those just the packets that were told?
func tells(t *testing.T, what string, told [][]byte, want []api.Packet) {
	t.Helper()
	if list := read(t, told); !slices.EqualFunc(list, want, wire.Same) {
		t.Fatalf("%s: told: %s; want: %s", what, text(list...), text(want...))
	}
}

// came: is that just what came?
func came(t *testing.T, what string, got, want session.Got) {
	t.Helper()
	if got.New != want.New || got.Has != want.Has || !bytes.Equal(got.Body, want.Body) {
		t.Fatalf("%s: New %v, Has %v, Body %q, want %v, %v, %q", what, got.New, got.Has, got.Body, want.New, want.Has, want.Body)
	}
}

// node is a Session, and the plain one that it is held against.
type node struct {
	s *session.Session
	p *plain
}

// made: a new Session.
func made(t *testing.T, my uint32, window, patience int) *session.Session {
	t.Helper()
	s, e := session.New(my, window, patience)
	if s == nil || e != api.OK {
		t.Fatalf("New(%d, %d, %d): %v, %v", my, window, patience, s, e)
	}
	return s
}

func fresh(t *testing.T, my uint32, window, patience int) node {
	t.Helper()
	n := node{made(t, my, window, patience), &plain{my: my, window: window, patience: patience}}
	n.stands(t, "new")
	return n
}

// stands: do My, Peer, Alive, Full and Len tell what the plain one has, however often they are asked?
func (n node) stands(t *testing.T, what string) {
	t.Helper()
	there := len(n.p.sent) - n.p.acked
	for range 2 {
		if my, peer := n.s.My(), n.s.Peer(); my != n.p.my || peer != n.p.peer {
			t.Fatalf("%s: My %d, Peer %d, want %d, %d", what, my, peer, n.p.my, n.p.peer)
		}
		if alive, want := n.s.Alive(), n.p.silent < n.p.patience; alive != want {
			t.Fatalf("%s: Alive %v, want %v", what, alive, want)
		}
		if full, size := n.s.Full(), n.s.Len(); full != (there >= n.p.window) || size != there {
			t.Fatalf("%s: Full %v, Len %d, want %d, of a window of %d", what, full, size, there, n.p.window)
		}
	}
}

// send: a Send, which tells what the plain one tells, and all that is asked behind it.
func (n node) send(t *testing.T, body []byte) [][]byte {
	t.Helper()
	want := n.p.send(body)
	told := n.s.Send(body)
	tells(t, "Send", told, want)
	n.stands(t, "behind Send")
	return told
}

// sends: so many Sends, each of a body of its own.
func (n node) sends(t *testing.T, many int) {
	t.Helper()
	for range many {
		n.send(t, word(len(n.p.sent)+1))
	}
}

func (n node) tick(t *testing.T) [][]byte {
	t.Helper()
	want := n.p.tick()
	told := n.s.Tick()
	tells(t, "Tick", told, want)
	n.stands(t, "behind Tick")
	return told
}

func (n node) take(t *testing.T, b []byte) (session.Got, [][]byte) {
	t.Helper()
	what := "Take of what is none"
	if p, e := wire.Parse(b); e == api.OK {
		what = "Take of " + text(p)
	}
	want, wantTold := n.p.take(b)
	got, told := n.s.Take(b)
	came(t, what, got, want)
	tells(t, what, told, wantTold)
	n.stands(t, "behind "+what)
	return got, told
}

// hears: a Take of that packet.
func (n node) hears(t *testing.T, p api.Packet) (session.Got, [][]byte) {
	t.Helper()
	return n.take(t, raw(t, p))
}

// word: a body that no other number has.
func word(n int) []byte { return fmt.Appendf(nil, "body %d", n) }
