package pack_test

import (
	"bytes"
	"math"
	"slices"
	"testing"

	"twain/api"
	"twain/pack"
	"twain/sample"
)

func TestP17_1TheKindsNumbers(t *testing.T) {
	got := []int{pack.Greet, pack.Data, pack.Ack, pack.Over, pack.Retry, pack.Ext, pack.Have, pack.End}
	if !slices.Equal(got, sample.MessageKinds()) {
		t.Errorf("Greet to End: %v, want %v", got, sample.MessageKinds())
	}
}

// asked: is Good of the message that?
func asked(t *testing.T, m api.Message, want bool) {
	t.Helper()
	if got := pack.Good(m); got != want {
		t.Errorf("Good(%+v): %v, want %v", m, got, want)
	}
	if b := pack.Bytes(m); (b != nil) != want {
		t.Errorf("Bytes(%+v): %v, where Good should be %v", m, b, want)
	}
}

func TestP17_1Ids(t *testing.T) {
	for _, c := range []struct {
		id   int
		want bool
	}{{0, false}, {1, true}, {2, true}, {1 << 32, true}, {1<<56 - 2, true}, {1<<56 - 1, true}, {1 << 56, false}, {1<<56 + 1, false}, {-1, false}, {-5, false}, {math.MaxInt, false}, {math.MinInt, false}, {math.MinInt + 1, false}} {
		asked(t, api.Message{Kind: pack.Data, Id: c.id, Data: make([]byte, api.SectorSize)}, c.want)
		asked(t, api.Message{Kind: pack.Ack, Id: c.id}, c.want)
		asked(t, api.Message{Kind: pack.Over, Id: c.id}, c.want)
		asked(t, api.Message{Kind: pack.Retry, Id: c.id}, c.want)
	}
}

func TestP17_1Offs(t *testing.T) {
	for off := -300; off < 600; off++ {
		sector, extent := off >= 0 && off < api.MaxSectors, off >= 0 && off < api.MaxExtents
		asked(t, api.Message{Kind: pack.Data, Id: 1, Off: off, Data: make([]byte, api.SectorSize)}, sector)
		asked(t, api.Message{Kind: pack.Ext, Off: off, Data: make([]byte, api.Extent*api.SectorSize)}, extent)
		asked(t, api.Message{Kind: pack.Have, Off: off}, extent)
	}
	for _, off := range []int{1 << 16, 1<<16 + 1, 1 << 32, math.MaxInt, math.MinInt, math.MinInt + 1} {
		asked(t, api.Message{Kind: pack.Data, Id: 1, Off: off, Data: make([]byte, api.SectorSize)}, false)
		asked(t, api.Message{Kind: pack.Ext, Off: off, Data: make([]byte, api.Extent*api.SectorSize)}, false)
		asked(t, api.Message{Kind: pack.Have, Off: off}, false)
	}
}

// A Data's write may reach over the end of the data area: that is not this layer's to know.
func TestP17_1ADataOverTheEnd(t *testing.T) {
	asked(t, api.Message{Kind: pack.Data, Id: 1, Off: api.MaxSectors - 1, Data: make([]byte, api.MaxLen*api.SectorSize)}, true)
}

func TestP17_1SizesOfData(t *testing.T) {
	for size := range 400 {
		whole := size%api.SectorSize == 0
		sectors := size / api.SectorSize
		asked(t, api.Message{Kind: pack.Data, Id: 1, Data: make([]byte, size)}, whole && sectors >= 1 && sectors <= api.MaxLen)
		asked(t, api.Message{Kind: pack.Ext, Data: make([]byte, size)}, whole && sectors == api.Extent)
		for _, m := range []api.Message{{Kind: pack.Greet}, {Kind: pack.Ack, Id: 1}, {Kind: pack.Over, Id: 1}, {Kind: pack.Retry, Id: 1}, {Kind: pack.Have}, {Kind: pack.End}} {
			m.Data = make([]byte, size)
			asked(t, m, size == 0)
		}
	}
	asked(t, api.Message{Kind: pack.Data, Id: 1, Data: make([]byte, 1<<20)}, false)
	asked(t, api.Message{Kind: pack.Ext, Data: make([]byte, 1<<20)}, false)
}

func TestP17_1Greets(t *testing.T) {
	for _, mask := range sample.Words() {
		asked(t, api.Message{Kind: pack.Greet, Mask: mask}, true)
		asked(t, api.Message{Kind: pack.Greet, Mask: mask, Was: true}, true)
	}
}

// Each single field that a kind does not have, set to something, is one too many.
func TestP17_1WhatAKindDoesNotHave(t *testing.T) {
	type field struct {
		name string
		set  func(m *api.Message)
	}
	setId := func(n int) field { return field{"Id", func(m *api.Message) { m.Id = n }} }
	setOff := func(n int) field { return field{"Off", func(m *api.Message) { m.Off = n }} }
	setMask := func(n uint64) field { return field{"Mask", func(m *api.Message) { m.Mask = n }} }
	setData := func(n int) field { return field{"Data", func(m *api.Message) { m.Data = make([]byte, n) }} }
	fields := []field{
		setId(1), setId(5), setId(-1), setId(greatestId), setId(math.MinInt), setId(math.MaxInt),
		setOff(1), setOff(63), setOff(-1), setOff(1 << 16), setOff(math.MinInt), setOff(math.MaxInt),
		setMask(1), setMask(1 << 63), setMask(math.MaxUint64),
		{"Was", func(m *api.Message) { m.Was = true }},
		setData(1), setData(15), setData(16), setData(64), setData(128),
	}
	for _, c := range []struct {
		good api.Message
		has  []string
	}{
		{api.Message{Kind: pack.Greet}, []string{"Was", "Mask"}},
		{api.Message{Kind: pack.Greet, Was: true, Mask: 9}, []string{"Was", "Mask"}},
		{api.Message{Kind: pack.Data, Id: 5, Off: 9, Data: make([]byte, 32)}, []string{"Id", "Off", "Data"}},
		{api.Message{Kind: pack.Ack, Id: 5}, []string{"Id"}},
		{api.Message{Kind: pack.Over, Id: 5}, []string{"Id"}},
		{api.Message{Kind: pack.Retry, Id: 5}, []string{"Id"}},
		{api.Message{Kind: pack.Ext, Off: 9, Data: make([]byte, 64)}, []string{"Off", "Data"}},
		{api.Message{Kind: pack.Have, Off: 9}, []string{"Off"}},
		{api.Message{Kind: pack.End}, nil},
	} {
		asked(t, c.good, true)
		for _, f := range fields {
			if !slices.Contains(c.has, f.name) {
				m := c.good
				f.set(&m)
				asked(t, m, false)
			}
		}
	}
}

// What other layers' tests try as what may not be is refused here.
func TestP17_1NoMessages(t *testing.T) {
	for _, m := range sample.NoMessages() {
		asked(t, m, false)
	}
}

func TestP17_1WrongKinds(t *testing.T) {
	for _, kind := range sample.NoMessageKinds() {
		for _, m := range sample.Messages() {
			m.Kind = kind
			asked(t, m, false)
		}
		asked(t, api.Message{Kind: kind}, false)
	}
	asked(t, api.Message{}, false)
}

// All fields crossed, of each kind and of some that are none: of each kind some are good.
func TestP17_1AllCrossed(t *testing.T) {
	for _, kind := range append(sample.MessageKinds(), 0, 9, -1, 256+3, math.MinInt+8) {
		good := 0
		for _, m := range slices.Concat(
			messages(kind, []int{0, 1, greatestId, greatestId + 1, -1}, []int{0, 63, 64, 255, 256, -1}, []int{0, 15, 16, 17, 64, 128, 129, 144}, []uint64{0, 1, 1 << 63}),
			messages(kind, ids(), []int{0, 5}, []int{0, 16, 64}, sample.FewWords()),
			messages(kind, []int{0, 3}, offs(), []int{0, 16, 64}, sample.FewWords()),
			messages(kind, []int{0, 3}, []int{0, 7}, sizes(), []uint64{0, 2}),
		) {
			if looked(t, m) {
				good++
			}
		}
		if isKind := kind >= 1 && kind <= 8; isKind != (good > 0) {
			t.Errorf("of kind %d: %d are good", kind, good)
		}
	}
}

// written is a message, and its bytes written out.
type written struct {
	m api.Message
	b []byte
}

// examples: of each kind messages with each edge of what it has.
func examples() []written {
	row := sample.Bytes(128)
	return []written{
		{api.Message{Kind: pack.End}, []byte{8}},
		{api.Message{Kind: pack.Ack, Id: 5}, []byte{3, 0, 0, 0, 0, 0, 0, 0, 5}},
		{api.Message{Kind: pack.Ack, Id: 1}, []byte{3, 0, 0, 0, 0, 0, 0, 0, 1}},
		{api.Message{Kind: pack.Ack, Id: 1<<56 - 1}, []byte{3, 0, 255, 255, 255, 255, 255, 255, 255}},
		{api.Message{Kind: pack.Over, Id: 1}, []byte{4, 0, 0, 0, 0, 0, 0, 0, 1}},
		{api.Message{Kind: pack.Over, Id: 0x02030405060708}, []byte{4, 0, 2, 3, 4, 5, 6, 7, 8}},
		{api.Message{Kind: pack.Over, Id: 1<<56 - 1}, []byte{4, 0, 255, 255, 255, 255, 255, 255, 255}},
		{api.Message{Kind: pack.Retry, Id: 1}, []byte{5, 0, 0, 0, 0, 0, 0, 0, 1}},
		{api.Message{Kind: pack.Retry, Id: 16777218}, []byte{5, 0, 0, 0, 0, 1, 0, 0, 2}},
		{api.Message{Kind: pack.Retry, Id: 1<<56 - 1}, []byte{5, 0, 255, 255, 255, 255, 255, 255, 255}},
		{api.Message{Kind: pack.Greet}, []byte{1, 0, 0, 0, 0, 0, 0, 0, 0, 0}},
		{api.Message{Kind: pack.Greet, Was: true}, []byte{1, 1, 0, 0, 0, 0, 0, 0, 0, 0}},
		{api.Message{Kind: pack.Greet, Mask: 1}, []byte{1, 0, 0, 0, 0, 0, 0, 0, 0, 1}},
		{api.Message{Kind: pack.Greet, Mask: 1, Was: true}, []byte{1, 1, 0, 0, 0, 0, 0, 0, 0, 1}},
		{api.Message{Kind: pack.Greet, Mask: 1 << 63}, []byte{1, 0, 128, 0, 0, 0, 0, 0, 0, 0}},
		{api.Message{Kind: pack.Greet, Mask: 1 << 63, Was: true}, []byte{1, 1, 128, 0, 0, 0, 0, 0, 0, 0}},
		{api.Message{Kind: pack.Greet, Mask: 0x0102030405060708}, []byte{1, 0, 1, 2, 3, 4, 5, 6, 7, 8}},
		{api.Message{Kind: pack.Greet, Mask: math.MaxUint64}, []byte{1, 0, 255, 255, 255, 255, 255, 255, 255, 255}},
		{api.Message{Kind: pack.Greet, Mask: math.MaxUint64, Was: true}, []byte{1, 1, 255, 255, 255, 255, 255, 255, 255, 255}},
		{api.Message{Kind: pack.Have}, []byte{7, 0, 0}},
		{api.Message{Kind: pack.Have, Off: 1}, []byte{7, 0, 1}},
		{api.Message{Kind: pack.Have, Off: 63}, []byte{7, 0, 63}},
		{api.Message{Kind: pack.Ext, Data: row[:64]}, slices.Concat([]byte{6, 0, 0}, row[:64])},
		{api.Message{Kind: pack.Ext, Off: 63, Data: make([]byte, 64)}, append([]byte{6, 0, 63}, make([]byte, 64)...)},
		{api.Message{Kind: pack.Data, Id: 1, Data: []byte("just 16 of bytes")}, []byte("\x02\x00\x00\x00\x00\x00\x00\x00\x01\x00\x00just 16 of bytes")},
		{api.Message{Kind: pack.Data, Id: 1<<56 - 1, Off: 255, Data: row}, slices.Concat([]byte{2, 0, 255, 255, 255, 255, 255, 255, 255, 0, 255}, row)},
		{api.Message{Kind: pack.Data, Id: 0x02030405060708, Off: 9, Data: make([]byte, 32)}, append([]byte{2, 0, 2, 3, 4, 5, 6, 7, 8, 0, 9}, make([]byte, 32)...)},
	}
}

func TestP17_2ByExample(t *testing.T) {
	for _, c := range examples() {
		if got := pack.Bytes(c.m); !bytes.Equal(got, c.b) {
			t.Errorf("Bytes(%+v): %v, want %v", c.m, got, c.b)
		}
		if got, e := pack.Parse(c.b); !sample.AlikeMessages(got, c.m) || e != api.OK {
			t.Errorf("Parse(%v): %+v, %v, want %+v", c.b, got, e, c.m)
		}
	}
	refused(t, []byte{9}, api.ErrBad)
}

func TestP17_2Bytes(t *testing.T) {
	for _, m := range sample.Messages() {
		if !looked(t, m) {
			t.Fatalf("%+v is not good", m)
		}
	}
}

func TestP17_2BytesOfNoMessage(t *testing.T) {
	for _, m := range []api.Message{
		{},
		{Kind: pack.Ack},
		{Kind: pack.Ack, Id: -5},
		{Kind: pack.Ack, Id: 1 << 56},
		{Kind: pack.Ack, Id: 5, Off: 1},
		{Kind: pack.End, Data: make([]byte, 16)},
		{Kind: pack.Have, Off: 64},
		{Kind: pack.Ext, Off: 1},
		{Kind: pack.Data, Id: 1},
		{Kind: pack.Data, Data: make([]byte, 16)},
		{Kind: pack.Data, Id: 1, Off: 1 << 16, Data: make([]byte, 16)},
		{Kind: pack.Greet, Id: 1},
		{Kind: 256 + pack.End},
	} {
		if got := pack.Bytes(m); got != nil {
			t.Errorf("Bytes(%+v): %v, want nil", m, got)
		}
	}
}

// differing: messages that differ from m in one field alone, in one byte of Data, and in its length alone.
func differing(m api.Message) []api.Message {
	var list []api.Message
	change := func(do func(m *api.Message)) {
		other := m
		other.Data = bytes.Clone(m.Data)
		do(&other)
		list = append(list, other)
	}
	change(func(m *api.Message) { m.Was = !m.Was })
	for bit := range 64 {
		change(func(m *api.Message) { m.Kind ^= 1 << bit })
		change(func(m *api.Message) { m.Id ^= 1 << bit })
		change(func(m *api.Message) { m.Off ^= 1 << bit })
		change(func(m *api.Message) { m.Mask ^= 1 << bit })
	}
	for i := range m.Data {
		change(func(m *api.Message) { m.Data[i] ^= 1 << (i % 8) })
	}
	change(func(m *api.Message) { m.Data = append(m.Data, 0) })
	change(func(m *api.Message) { m.Data = append(m.Data, make([]byte, 16)...) })
	if len(m.Data) > 0 {
		change(func(m *api.Message) { m.Data = m.Data[1:] })
		change(func(m *api.Message) { m.Data = m.Data[:len(m.Data)-1] })
		change(func(m *api.Message) { m.Data = nil })
	}
	return list
}

func TestP17_2Same(t *testing.T) {
	few := []api.Message{
		{},
		{Kind: -1, Id: math.MinInt, Off: math.MaxInt, Mask: math.MaxUint64, Was: true, Data: []byte{0}},
		{Kind: 9, Data: make([]byte, 300)},
		{Kind: pack.Ack},
		{Kind: pack.Ack, Id: -5, Off: 7, Mask: 3, Was: true, Data: sample.Bytes(5)},
	}
	for _, c := range examples() {
		few = append(few, c.m)
	}
	for _, m := range few {
		copied := m
		copied.Data = bytes.Clone(m.Data)
		if !pack.Same(m, m) || !pack.Same(m, copied) {
			t.Errorf("Same of %+v and itself: false", m)
		}
		for _, other := range differing(m) {
			if pack.Same(m, other) || pack.Same(other, m) {
				t.Errorf("Same of %+v and %+v: true", m, other)
			}
		}
	}
	for i, a := range few {
		for j, b := range few {
			if got := pack.Same(a, b); got != (i == j) {
				t.Errorf("Same(%+v, %+v): %v", a, b, got)
			}
		}
	}
}

// Data in which a byte is turned while another one makes up for it, and in another order, is another one.
func TestP17_2SameByteByByte(t *testing.T) {
	one := api.Message{Kind: pack.Ext, Data: sample.Bytes(64)}
	for i := 1; i < 64; i++ {
		other := api.Message{Kind: pack.Ext, Data: sample.Bytes(64)}
		other.Data[i]++
		other.Data[i-1]--
		if pack.Same(one, other) {
			t.Errorf("Same(%+v, %+v): true", one, other)
		}
	}
	other := api.Message{Kind: pack.Ext, Data: sample.Falling(sample.Bytes(64))}
	if pack.Same(one, other) {
		t.Errorf("Same(%+v, %+v): true", one, other)
	}
}

func TestP17_2Name(t *testing.T) {
	for kind, want := range map[int]string{
		pack.Greet: "greet", pack.Data: "data", pack.Ack: "ack", pack.Over: "over",
		pack.Retry: "retry", pack.Ext: "ext", pack.Have: "have", pack.End: "end",
	} {
		if got := pack.Name(kind); got != want {
			t.Errorf("Name(%d): %q, want %q", kind, got, want)
		}
	}
	for _, kind := range sample.NoMessageKinds() {
		if got := pack.Name(kind); got != "unknown" {
			t.Errorf("Name(%d): %q, want unknown", kind, got)
		}
	}
}
