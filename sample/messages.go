package sample

import (
	"math"
	"slices"
	"strconv"

	"twain/api"
)

// MessageKinds: the kinds of messages; they rise.
func MessageKinds() []int { return []int{1, 2, 3, 4, 5, 6, 7, 8} }

// NoMessageKinds: numbers of no kind of messages; many have a kind's lowest byte, or its lowest bits.
func NoMessageKinds() []int {
	list := []int{0, -1, -2, -8, 9, 10, 16, 255, 256, 512, 1 << 16, 1 << 31, 1 << 32, math.MaxInt32, math.MinInt32, math.MaxInt - 1, math.MaxInt, math.MinInt}
	for _, kind := range MessageKinds() {
		list = append(list, -kind, 16+kind, 128+kind, 256+kind, 1<<16+kind, 1<<32+kind, 1<<62+kind, kind-256, math.MinInt+kind)
	}
	return list
}

// Ids: those that a message may have, at both ends and with all bytes unlike.
func Ids() []int {
	return []int{1, 2, 5, 255, 256, 1 << 24, 1<<31 - 1, 1 << 31, 1<<32 - 1, 1 << 32, 0x0102030405060708 % (1 << 56), 1<<56 - 2, 1<<56 - 1}
}

// Messages: messages of each kind that may be, with each edge of what they have, and Data of noughts, of 255s and of no pattern.
func Messages() []api.Message {
	list := []api.Message{{Kind: 8}}
	for _, m := range FewWords() {
		list = append(list, api.Message{Kind: 1, Mask: m}, api.Message{Kind: 1, Mask: m, Was: true})
	}
	for _, id := range Ids() {
		for _, kind := range []int{3, 4, 5} {
			list = append(list, api.Message{Kind: kind, Id: id})
		}
		for _, off := range []int{0, 1, 254, 255} {
			for size := 16; size <= 128; size += 16 {
				for _, data := range Sorts(size) {
					list = append(list, api.Message{Kind: 2, Id: id, Off: off, Data: data})
				}
			}
		}
	}
	for off := range 64 {
		list = append(list, api.Message{Kind: 7, Off: off})
		for _, data := range Sorts(64) {
			list = append(list, api.Message{Kind: 6, Off: off, Data: data})
		}
	}
	return list
}

// IsMessage: is it a message that may be, by chapter 17's words, one kind behind the other, with the limits' numbers written out?
func IsMessage(m api.Message) bool {
	isId := m.Id >= 1 && m.Id <= 72057594037927935
	isExtent := m.Off >= 0 && m.Off <= 63
	noGreet := !m.Was && m.Mask == 0
	switch m.Kind {
	case 1:
		return m.Id == 0 && m.Off == 0 && len(m.Data) == 0
	case 2:
		size := len(m.Data)
		return noGreet && isId && m.Off >= 0 && m.Off <= 255 && size > 0 && size <= 128 && size%16 == 0
	case 3, 4, 5:
		return noGreet && isId && m.Off == 0 && len(m.Data) == 0
	case 6:
		return noGreet && m.Id == 0 && isExtent && len(m.Data) == 64
	case 7:
		return noGreet && m.Id == 0 && isExtent && len(m.Data) == 0
	case 8:
		return noGreet && m.Id == 0 && m.Off == 0 && len(m.Data) == 0
	}
	return false
}

// NoMessages: messages that may not be: of no Kind, and of each Kind with one thing alone that its messages have not, or have otherwise.
func NoMessages() []api.Message {
	list := []api.Message{{}}
	for _, kind := range NoMessageKinds() {
		list = append(list, api.Message{Kind: kind}, api.Message{Kind: kind, Id: 5}, Data(5, 1, Bytes(32)), Ext(1, Bytes(64)))
		list[len(list)-2].Kind, list[len(list)-1].Kind = kind, kind
	}
	for _, m := range []api.Message{Greet(0, false), Greet(9, true), Data(5, 9, Bytes(32)), Answer(3, 5), Answer(4, 5), Answer(5, 5), Ext(9, Bytes(64)), Have(9), {Kind: 8}} {
		list = append(list, slices.DeleteFunc(others(m), IsMessage)...)
	}
	return list
}

// others: the message with one thing alone another one, each time another.
func others(m api.Message) []api.Message {
	var list []api.Message
	but := func(set func(m *api.Message)) {
		other := m
		set(&other)
		list = append(list, other)
	}
	for _, n := range append(append(NoExtents(), Ends()...), 0, 1, 5, 9, 63, 1<<16+1, 1<<56-1, 1<<56, 1<<56+1, 1<<57) {
		but(func(m *api.Message) { m.Id = n })
		but(func(m *api.Message) { m.Off = n })
	}
	for _, mask := range FewWords() {
		but(func(m *api.Message) { m.Mask = mask })
	}
	but(func(m *api.Message) { m.Was = true })
	for _, size := range []int{0, 1, 15, 16, 17, 31, 33, 63, 64, 65, 80, 127, 128, 129, 144, 200, 256, 1024} {
		but(func(m *api.Message) { m.Data = Bytes(size) })
	}
	return list
}

// Data: the message that has a write.
func Data(id, off int, b []byte) api.Message { return api.Message{Kind: 2, Id: id, Off: off, Data: b} }

// Answer: the message of that kind, an Ack, an Over or a Retry, that answers a Data.
func Answer(kind, id int) api.Message { return api.Message{Kind: kind, Id: id} }

// Greet: the message that two nodes meet by.
func Greet(mask uint64, was bool) api.Message { return api.Message{Kind: 1, Mask: mask, Was: was} }

// Ext: the message that has an extent's bytes.
func Ext(e int, b []byte) api.Message { return api.Message{Kind: 6, Off: e, Data: b} }

// Have: the message that tells that an extent is there.
func Have(e int) api.Message { return api.Message{Kind: 7, Off: e} }

// NoExts: messages that are no Ext, or that may not be, those by one thing alone.
func NoExts() []api.Message {
	list := slices.DeleteFunc(append(Messages(), api.Message{}), func(m api.Message) bool { return m.Kind == 6 })
	but := func(set func(m *api.Message)) {
		m := Ext(1, Bytes(64))
		set(&m)
		list = append(list, m)
	}
	for _, kind := range append(MessageKinds(), NoMessageKinds()...) {
		if kind != 6 {
			but(func(m *api.Message) { m.Kind = kind })
		}
	}
	for _, id := range append(append(Ids(), Ends()...), -1, -5) {
		but(func(m *api.Message) { m.Id = id })
	}
	for _, mask := range Words()[1:140] {
		but(func(m *api.Message) { m.Mask = mask })
	}
	but(func(m *api.Message) { m.Was = true })
	for _, off := range NoExtents() {
		but(func(m *api.Message) { m.Off = off })
	}
	for _, size := range []int{0, 1, 15, 16, 32, 48, 63, 65, 79, 80, 96, 128, 200, 1024} {
		but(func(m *api.Message) { m.Data = Bytes(size) })
	}
	but(func(m *api.Message) { m.Data = nil })
	// Bytes that lie behind the list's end are none of it.
	but(func(m *api.Message) { m.Data = m.Data[:63] })
	return list
}

// Shown: the message as a test's words tell it: Kind, Id, Off, Mask, Was, and of its bytes the first eight, and how many there are.
func Shown(m api.Message) string {
	text := "{" + strconv.Itoa(m.Kind) + " " + strconv.Itoa(m.Id) + " " + strconv.Itoa(m.Off) + " 0x" + strconv.FormatUint(m.Mask, 16) + " " + strconv.FormatBool(m.Was)
	for _, b := range m.Data[:min(len(m.Data), 8)] {
		text += " " + strconv.Itoa(int(b))
	}
	return text + " of " + strconv.Itoa(len(m.Data)) + " bytes}"
}

// AlikeMessages: have two messages the same fields, Data byte by byte? It is asked by what == tells of each field, so that no test hangs on a Same.
func AlikeMessages(a, b api.Message) bool {
	type plain struct {
		kind, id, off int
		mask          uint64
		was           bool
		data          string
	}
	return plain{a.Kind, a.Id, a.Off, a.Mask, a.Was, string(a.Data)} == plain{b.Kind, b.Id, b.Off, b.Mask, b.Was, string(b.Data)}
}

// AlikeAll: have two lists the same messages, in the same order?
func AlikeAll(a, b []api.Message) bool { return slices.EqualFunc(a, b, AlikeMessages) }

// ShownAll: the messages as a test's words tell them.
func ShownAll(list []api.Message) []string {
	var texts []string
	for _, m := range list {
		texts = append(texts, Shown(m))
	}
	return texts
}
