package pack_test

import (
	"bytes"
	"testing"

	"twain/api"
	"twain/pack"
	"twain/sample"
)

func TestP17_3AGoodMessageComesBack(t *testing.T) {
	count := map[int]int{}
	for _, m := range sample.Messages() {
		b := pack.Bytes(m)
		got, e := pack.Parse(b)
		if e != api.OK || !sample.AlikeMessages(got, m) || !pack.Same(got, m) {
			t.Fatalf("Parse of Bytes(%+v), %v: %+v, %v", m, b, got, e)
		}
		if !pack.Good(got) {
			t.Fatalf("Parse(%v): %+v, which is not Good", b, got)
		}
		count[m.Kind]++
	}
	for _, kind := range sample.MessageKinds() {
		if count[kind] == 0 {
			t.Errorf("of kind %d none was tried", kind)
		}
	}
}

// Messages of no pattern: those that are good come back, and no two of them that differ have the same bytes.
func TestP17_3MessagesOfNoPattern(t *testing.T) {
	words := sample.Words()[130:]
	seen := map[string]api.Message{}
	for i, w := range words[:1500] {
		v := words[i+400]
		m := api.Message{Kind: 1 + i%8}
		switch m.Kind {
		case pack.Greet:
			m.Mask, m.Was = v, w&1 == 1
		case pack.Data:
			m.Id, m.Off, m.Data = 1+int(w>>8)%greatestId, int(v%256), sample.Bytes(200)[i%50:][:16*(1+v>>20%8)]
		case pack.Ack, pack.Over, pack.Retry:
			m.Id = 1 + int(w>>8)%greatestId
		case pack.Ext:
			m.Off, m.Data = int(w%64), sample.Bytes(200)[i%100:][:64]
		case pack.Have:
			m.Off = int(w % 64)
		}
		if !looked(t, m) {
			t.Fatalf("%+v is not good", m)
		}
		b := pack.Bytes(m)
		if got, e := pack.Parse(b); e != api.OK || !sample.AlikeMessages(got, m) {
			t.Fatalf("Parse(%v): %+v, %v, want %+v", b, got, e, m)
		}
		if first, there := seen[string(b)]; there && !sample.AlikeMessages(first, m) {
			t.Fatalf("Bytes of %+v and of %+v are both %v", first, m, b)
		}
		seen[string(b)] = m
	}
}

// All bytes of one and two, and with each kind all of three and some of each length: what is a message is the bytes of that message.
func TestP17_3BytesComeBack(t *testing.T) {
	read(t, nil)
	for a := range 256 {
		read(t, []byte{byte(a)})
		for b := range 256 {
			read(t, []byte{byte(a), byte(b)})
			for _, kind := range sample.MessageKinds() {
				read(t, []byte{byte(kind), byte(a), byte(b)})
			}
		}
	}
	counts := map[api.Errno]int{}
	for _, kind := range append(sample.MessageKinds(), 0, 9, 255) {
		for size := 1; size < 260; size++ {
			for skip := range 40 {
				b := sample.Bytes(size + skip)[skip:]
				b[0] = byte(kind)
				// With small numbers more of them are messages.
				small := bytes.Clone(b)
				for i := 1; i < min(len(small), 11); i++ {
					small[i] %= 2
				}
				counts[read(t, b)]++
				counts[read(t, small)]++
			}
		}
	}
	for _, e := range []api.Errno{api.OK, api.ErrShort, api.ErrBad, api.ErrLong} {
		if counts[e] < 100 {
			t.Errorf("of many bytes %d are answered with %v", counts[e], e)
		}
	}
}

// The bytes of messages, spoilt: with each byte turned to each other one, with some turned side by side, and with two changed for each other.
func TestP17_3SpoiltBytesComeBack(t *testing.T) {
	counts := map[api.Errno]int{}
	for _, c := range examples() {
		for i := range c.b {
			for turn := 1; turn < 256; turn++ {
				counts[read(t, sample.Turned(c.b, i, uint32(turn)))]++
			}
			for j := range i {
				b := bytes.Clone(c.b)
				b[i], b[j] = b[j], b[i]
				counts[read(t, b)]++
			}
		}
		for other := range sample.Others(c.b) {
			counts[read(t, other)]++
		}
	}
	for _, e := range []api.Errno{api.OK, api.ErrShort, api.ErrBad} {
		if counts[e] < 100 {
			t.Errorf("of spoilt bytes %d are answered with %v", counts[e], e)
		}
	}
}

func TestR3WhatIsHandedInStaysAsItWas(t *testing.T) {
	for _, m := range append(sample.Messages(), api.Message{Kind: 9, Data: sample.Bytes(20)}, api.Message{Kind: pack.Ext, Data: sample.Bytes(63)}) {
		for _, room := range []int{0, 1, 16, 200} {
			whole := m
			var memory []byte
			whole.Data, memory = sample.WithRoom(m.Data, 99, room)
			was := bytes.Clone(memory)
			pack.Good(whole)
			pack.Bytes(whole)
			pack.Same(whole, m)
			if !bytes.Equal(memory, was) {
				t.Fatalf("of %+v, the Data and the room behind it: %v, were %v", m, memory, was)
			}
			for _, b := range [][]byte{bytesOf(m), append(bytesOf(m), 0), bytesOf(m)[1:]} {
				part, memory := sample.WithRoom(b, 99, room)
				was := bytes.Clone(memory)
				pack.Parse(part)
				if !bytes.Equal(memory, was) {
					t.Fatalf("Parse(%v): the bytes and the room behind them: %v, were %v", b, memory, was)
				}
			}
		}
	}
}

// What is handed in may be changed behind the call, and what was answered stays as it was.
func TestR3WhatIsHandedInIsNotKept(t *testing.T) {
	for _, m := range sample.Messages() {
		handed := m
		handed.Data, _ = sample.WithRoom(m.Data, 99, 20)
		b := pack.Bytes(handed)
		sample.Spoil(handed.Data)
		if want := bytesOf(m); !bytes.Equal(b, want) {
			t.Fatalf("Bytes(%+v), and its Data is changed: %v, were %v", m, b, want)
		}
		got, _ := pack.Parse(b)
		sample.Spoil(b)
		if !sample.AlikeMessages(got, m) {
			t.Fatalf("Parse of the bytes of %+v, and they are changed: %+v", m, got)
		}
	}
}

// An answer may be changed, with its spare room: neither what was handed in nor another answer shows it.
func TestR3AnswersAreNewMemory(t *testing.T) {
	for _, m := range sample.Messages() {
		handed := m
		var memory []byte
		handed.Data, memory = sample.WithRoom(m.Data, 99, 20)
		was := bytes.Clone(memory)
		one, two := pack.Bytes(handed), pack.Bytes(handed)
		sample.Spoil(one)
		if want := bytesOf(m); !bytes.Equal(memory, was) || !bytes.Equal(two, want) {
			t.Fatalf("Bytes(%+v) is changed: the Data and the room behind it are %v, another answer %v", m, memory, two)
		}
		b, memory := sample.WithRoom(bytesOf(m), 99, 20)
		was = bytes.Clone(memory)
		first, _ := pack.Parse(b)
		second, _ := pack.Parse(b)
		sample.Spoil(first.Data)
		if !bytes.Equal(memory, was) || !sample.AlikeMessages(second, m) {
			t.Fatalf("Parse(%v) is changed: the bytes and the room behind them are %v, another answer %+v", b, memory, second)
		}
	}
}

func TestR3NilAndEmpty(t *testing.T) {
	nothing := [][]byte{nil, {}, make([]byte, 0, 64), sample.Bytes(64)[:0]}
	for _, c := range examples() {
		if len(c.m.Data) > 0 {
			continue
		}
		for _, data := range nothing {
			m := c.m
			m.Data = data
			asked(t, m, true)
			if got := pack.Bytes(m); !bytes.Equal(got, c.b) {
				t.Errorf("Bytes(%+v), without Data: %v, want %v", m, got, c.b)
			}
			for _, other := range nothing {
				n := c.m
				n.Data = other
				if !pack.Same(m, n) {
					t.Errorf("Same of %+v and itself, both without Data: false", m)
				}
			}
		}
	}
	for _, data := range nothing {
		refused(t, data, api.ErrShort)
		asked(t, api.Message{Kind: pack.Data, Id: 1, Data: data}, false)
		asked(t, api.Message{Kind: pack.Ext, Data: data}, false)
	}
}

// No call keeps what it was asked: the same is answered again behind other calls.
func TestR4NothingIsKept(t *testing.T) {
	for range 2 {
		for _, way := range sample.WaysThrough[written]() {
			for _, c := range way(examples()) {
				refused(t, []byte{9}, api.ErrBad)
				asked(t, api.Message{Kind: pack.Ack, Id: 1 << 56}, false)
				if got := pack.Bytes(c.m); !bytes.Equal(got, c.b) {
					t.Fatalf("Bytes(%+v): %v, want %v", c.m, got, c.b)
				}
				if got, e := pack.Parse(c.b); e != api.OK || !sample.AlikeMessages(got, c.m) {
					t.Fatalf("Parse(%v): %+v, %v, want %+v", c.b, got, e, c.m)
				}
			}
		}
	}
}
