package pack_test

import (
	"bytes"
	"math"
	"testing"

	"twain/api"
	"twain/pack"
	"twain/sample"
)

// greatestId is the last Id that may be.
const greatestId = 72057594037927935

// bytesOf: Bytes by the chapter's words of a message that is good.
func bytesOf(m api.Message) []byte {
	list := []byte{byte(m.Kind)}
	switch m.Kind {
	case 1:
		was := map[bool]byte{false: 0, true: 1}[m.Was]
		list = append(append(list, was), sample.HighestFirst(m.Mask, 8)...)
	case 2:
		list = append(append(list, sample.HighestFirst(uint64(m.Id), 8)...), sample.HighestFirst(uint64(m.Off), 2)...)
	case 3, 4, 5:
		list = append(list, sample.HighestFirst(uint64(m.Id), 8)...)
	case 6, 7:
		list = append(list, sample.HighestFirst(uint64(m.Off), 2)...)
	}
	return append(list, m.Data...)
}

// headSize: how many bytes the kind, and the numbers of a message of that kind, need.
func headSize(kind byte) int {
	switch kind {
	case 1:
		return 10
	case 2:
		return 11
	case 3, 4, 5:
		return 9
	case 6, 7:
		return 3
	}
	return 1
}

// parsed: Parse by the chapter's words.
func parsed(b []byte) (api.Message, api.Errno) {
	switch {
	case len(b) > 200:
		return api.Message{}, api.ErrLong
	case len(b) == 0 || len(b) < headSize(b[0]):
		return api.Message{}, api.ErrShort
	}
	m := api.Message{Kind: int(b[0]), Data: b[headSize(b[0]):]}
	switch m.Kind {
	case 1:
		if b[1] > 1 {
			return api.Message{}, api.ErrBad
		}
		m.Was, m.Mask = b[1] == 1, sample.Number(b[2:10])
	case 2:
		m.Id, m.Off = int(sample.Number(b[1:9])), int(sample.Number(b[9:11]))
	case 3, 4, 5:
		m.Id = int(sample.Number(b[1:9]))
	case 6, 7:
		m.Off = int(sample.Number(b[1:3]))
	}
	if !sample.IsMessage(m) {
		return api.Message{}, api.ErrBad
	}
	return m, api.OK
}

// ids: those that may be, at both ends and with all bytes unlike, and those that may not.
func ids() []int {
	return append(sample.Ids(), 0, -1, -5, math.MinInt32, -greatestId, math.MinInt+1, math.MinInt, greatestId+1, greatestId+2, 1<<57, math.MaxInt-1, math.MaxInt)
}

// offs: those at and beside the ends of a data area and of its extents, those whose lowest 16 bits may be, and those at the ends of an int.
func offs() []int {
	return []int{0, 1, 3, 62, 63, 64, 65, 128, 254, 255, 256, 257, 65535, 65536, 65537, 65536 + 63, 1 << 32, 1<<32 + 1, math.MaxInt - 1, math.MaxInt, -1, -2, -63, -256, -65536, math.MinInt + 1, math.MinInt}
}

// sizes: of Data: each number of whole sectors up to more than there may be, and one byte more and one fewer; in all more than a message has, and none.
func sizes() []int {
	list := []int{0, 1, 2, 8, 199, 200, 201, 1000, 4096}
	for sectors := 1; sectors <= 17; sectors++ {
		list = append(list, 16*sectors-1, 16*sectors, 16*sectors+1)
	}
	return list
}

// messages: of that kind, whatever it has, all fields crossed.
func messages(kind int, ids, offs, sizes []int, masks []uint64) []api.Message {
	var list []api.Message
	for _, id := range ids {
		for _, off := range offs {
			for _, size := range sizes {
				for _, mask := range masks {
					for _, was := range []bool{false, true} {
						list = append(list, api.Message{Kind: kind, Id: id, Off: off, Mask: mask, Was: was, Data: sample.Bytes(size)})
					}
				}
			}
		}
	}
	return list
}

// looked: are Good and Bytes of a message as the chapter's words tell?
func looked(t *testing.T, m api.Message) bool {
	t.Helper()
	want := sample.IsMessage(m)
	if got := pack.Good(m); got != want {
		t.Fatalf("Good(%+v): %v, want %v", m, got, want)
	}
	b := pack.Bytes(m)
	if !want && b != nil {
		t.Fatalf("Bytes(%+v): %v, want nil", m, b)
	}
	if want && !bytes.Equal(b, bytesOf(m)) {
		t.Fatalf("Bytes(%+v): %v, want %v", m, b, bytesOf(m))
	}
	return want
}

// read: is Parse's answer as the chapter's words tell? Of bytes that are a message, they are its bytes.
func read(t *testing.T, b []byte) api.Errno {
	t.Helper()
	want, wantE := parsed(b)
	got, e := pack.Parse(b)
	if e != wantE || !sample.AlikeMessages(got, want) {
		t.Fatalf("Parse(%v): %+v, %v, want %+v, %v", b, got, e, want, wantE)
	}
	if back := pack.Bytes(got); e == api.OK && !bytes.Equal(back, b) {
		t.Fatalf("Parse(%v): %+v, whose Bytes are %v", b, got, back)
	}
	return e
}

// refused: is Parse's answer that error alone?
func refused(t *testing.T, b []byte, want api.Errno) {
	t.Helper()
	if got, e := pack.Parse(b); e != want || !sample.AlikeMessages(got, api.Message{}) {
		t.Fatalf("Parse(%v): %+v, %v, want the zero one, %v", b, got, e, want)
	}
}
