package sample_test

import (
	"math"
	"slices"
	"testing"

	"twain/api"
	"twain/sample"
)

// The kinds are all eight; none of the others is one, and those beside them, and both ends of an int, are there.
func TestMessageKinds(t *testing.T) {
	list, not := sample.MessageKinds(), sample.NoMessageKinds()
	if !slices.Equal(list, []int{1, 2, 3, 4, 5, 6, 7, 8}) {
		t.Errorf("MessageKinds: %v", list)
	}
	if slices.ContainsFunc(not, func(n int) bool { return n >= 1 && n <= 8 }) {
		t.Errorf("NoMessageKinds: %v: one of them is a kind", not)
	}
	for _, n := range []int{math.MinInt, -1, 0, 9, 256 + 6, 1<<32 + 6, math.MaxInt} {
		if !slices.Contains(not, n) {
			t.Errorf("NoMessageKinds: %d is not there", n)
		}
	}
	sample.Spoil(list)
	sample.Spoil(not)
	if sample.MessageKinds()[0] != 1 || sample.NoMessageKinds()[0] != 0 {
		t.Error("two answers share memory")
	}
}

// They rise, from the first one that may be to the last one.
func TestIds(t *testing.T) {
	list := sample.Ids()
	if slices.Min(list) != 1 || slices.Max(list) != 1<<56-1 || !slices.IsSorted(list) || len(slices.Compact(slices.Clone(list))) != len(list) {
		t.Errorf("Ids: %v", list)
	}
	sample.Spoil(list)
	if sample.Ids()[0] != 1 {
		t.Error("two answers share memory")
	}
}

// Of each kind there are some, no two are alike, and a message has nothing that its kind has not.
func TestMessages(t *testing.T) {
	count := map[int]int{}
	list := sample.Messages()
	for i, m := range list {
		count[m.Kind]++
		hasId, hasOff := m.Kind >= 2 && m.Kind <= 5, m.Kind == 2 || m.Kind == 6 || m.Kind == 7
		if m.Kind != 1 && (m.Mask != 0 || m.Was) || !hasId && m.Id != 0 || hasId && m.Id < 1 || !hasOff && m.Off != 0 {
			t.Errorf("Messages: %+v", m)
		}
		if m.Kind == 6 && len(m.Data) != 64 || m.Kind != 6 && m.Kind != 2 && len(m.Data) != 0 {
			t.Errorf("Messages: %+v: %d bytes", m, len(m.Data))
		}
		if slices.ContainsFunc(list[:i], func(other api.Message) bool { return sample.AlikeMessages(m, other) }) {
			t.Errorf("Messages: %+v is there twice", m)
		}
	}
	if len(count) != 8 || count[2] < 1000 || count[6] != 3*64 || count[7] != 64 {
		t.Errorf("Messages: by their kinds %v", count)
	}
}

// Each field alone tells messages apart; nil and empty Data are the same.
func TestAlikeMessages(t *testing.T) {
	fresh := func() api.Message {
		return api.Message{Kind: 1, Id: 2, Off: 3, Mask: 4, Was: true, Data: []byte{5, 6}}
	}
	if !sample.AlikeMessages(fresh(), fresh()) || !sample.AlikeMessages(api.Message{}, api.Message{Data: []byte{}}) {
		t.Errorf("messages that are alike are told apart")
	}
	for how, set := range map[string]func(m *api.Message){
		"in their Kind":       func(m *api.Message) { m.Kind = 0 },
		"in their Id":         func(m *api.Message) { m.Id = 0 },
		"in their Off":        func(m *api.Message) { m.Off = 0 },
		"in their Mask":       func(m *api.Message) { m.Mask = 0 },
		"in their Was":        func(m *api.Message) { m.Was = false },
		"in a byte":           func(m *api.Message) { m.Data[1]++ },
		"by a byte less":      func(m *api.Message) { m.Data = m.Data[:1] },
		"by a nought more":    func(m *api.Message) { m.Data = append(m.Data, 0) },
		"by having Data, too": func(m *api.Message) { m.Data = nil },
	} {
		m := fresh()
		set(&m)
		if sample.AlikeMessages(m, fresh()) || sample.AlikeMessages(fresh(), m) {
			t.Errorf("messages that differ %s are told to be alike", how)
		}
	}
}

// Of each Kind the one with the least, and the one with the most, of all that it has is one, and what is a little beside them is none.
func TestIsMessage(t *testing.T) {
	const most = 1<<56 - 1
	for _, c := range []struct {
		m    api.Message
		want bool
	}{
		{api.Message{}, false},
		{api.Message{Kind: 1}, true},
		{api.Message{Kind: 1, Mask: math.MaxUint64, Was: true}, true},
		{api.Message{Kind: 1, Id: 1}, false},
		{api.Message{Kind: 2, Id: 1, Data: make([]byte, 16)}, true},
		{api.Message{Kind: 2, Id: most, Off: 255, Data: make([]byte, 128)}, true},
		{api.Message{Kind: 2, Id: 1}, false},
		{api.Message{Kind: 2, Id: 1, Data: make([]byte, 24)}, false},
		{api.Message{Kind: 2, Id: 1, Data: make([]byte, 144)}, false},
		{api.Message{Kind: 2, Id: 1, Off: 256, Data: make([]byte, 16)}, false},
		{api.Message{Kind: 2, Id: 1, Off: -1, Data: make([]byte, 16)}, false},
		{api.Message{Kind: 2, Id: 0, Data: make([]byte, 16)}, false},
		{api.Message{Kind: 2, Id: most + 1, Data: make([]byte, 16)}, false},
		{api.Message{Kind: 3, Id: 1}, true},
		{api.Message{Kind: 4, Id: most}, true},
		{api.Message{Kind: 5, Id: 9, Data: []byte{}}, true},
		{api.Message{Kind: 3}, false},
		{api.Message{Kind: 4, Id: most + 1}, false},
		{api.Message{Kind: 5, Id: -1}, false},
		{api.Message{Kind: 5, Id: 1, Off: 1}, false},
		{api.Message{Kind: 6, Off: 63, Data: make([]byte, 64)}, true},
		{api.Message{Kind: 6, Off: 64, Data: make([]byte, 64)}, false},
		{api.Message{Kind: 6, Data: make([]byte, 48)}, false},
		{api.Message{Kind: 6, Id: 1, Data: make([]byte, 64)}, false},
		{api.Message{Kind: 7, Off: 63}, true},
		{api.Message{Kind: 7, Off: -1}, false},
		{api.Message{Kind: 7, Data: make([]byte, 64)}, false},
		{api.Message{Kind: 8}, true},
		{api.Message{Kind: 8, Was: true}, false},
		{api.Message{Kind: 8, Mask: 1}, false},
		{api.Message{Kind: 9}, false},
		{api.Message{Kind: -1}, false},
	} {
		if got := sample.IsMessage(c.m); got != c.want {
			t.Errorf("IsMessage(%s): %v", sample.Shown(c.m), got)
		}
	}
	for _, m := range sample.Messages() {
		if !sample.IsMessage(m) {
			t.Errorf("IsMessage(%s): false", sample.Shown(m))
		}
	}
}

// None may be; of each Kind there are some by each field, and of no Kind there are some with all that a Kind has; none shares memory with another.
func TestNoMessages(t *testing.T) {
	fresh := map[int]api.Message{1: sample.Greet(0, false), 2: sample.Data(5, 9, sample.Bytes(32)), 3: sample.Answer(3, 5), 4: sample.Answer(4, 5), 5: sample.Answer(5, 5), 6: sample.Ext(9, sample.Bytes(64)), 7: sample.Have(9), 8: {Kind: 8}}
	type fault struct {
		kind  int
		field string
	}
	count, kinds := map[fault]int{}, map[int]int{}
	list := sample.NoMessages()
	for _, m := range list {
		if sample.IsMessage(m) {
			t.Errorf("NoMessages: %s is one", sample.Shown(m))
		}
		kinds[m.Kind]++
		good := fresh[m.Kind]
		for field, differs := range map[string]bool{"Id": m.Id != good.Id, "Off": m.Off != good.Off, "Mask": m.Mask != good.Mask, "Was": m.Was != good.Was, "Data": len(m.Data) != len(good.Data)} {
			if differs {
				count[fault{m.Kind, field}]++
			}
		}
	}
	for kind := range fresh {
		for _, field := range []string{"Id", "Off", "Mask", "Was", "Data"} {
			if isFree := kind == 1 && (field == "Was" || field == "Mask"); !isFree && count[fault{kind, field}] == 0 {
				t.Errorf("NoMessages: none of Kind %d by its %s", kind, field)
			}
		}
	}
	for _, kind := range sample.NoMessageKinds() {
		if kinds[kind] < 4 {
			t.Errorf("NoMessages: %d of Kind %d", kinds[kind], kind)
		}
	}
	for i := range list {
		sample.Spoil(list[i].Data)
	}
	if again := sample.NoMessages(); slices.ContainsFunc(again, sample.IsMessage) || again[3].Data[0] != sample.Bytes(1)[0] {
		t.Error("two answers share memory")
	}
}

// What each is given stands in its fields, and nothing else does.
func TestMakers(t *testing.T) {
	b := []byte{1, 2, 3}
	for _, c := range []struct{ got, want api.Message }{
		{sample.Data(5, 6, b), api.Message{Kind: 2, Id: 5, Off: 6, Data: b}},
		{sample.Data(-1, -2, nil), api.Message{Kind: 2, Id: -1, Off: -2}},
		{sample.Answer(3, 9), api.Message{Kind: 3, Id: 9}},
		{sample.Answer(5, 0), api.Message{Kind: 5}},
		{sample.Greet(5, false), api.Message{Kind: 1, Mask: 5}},
		{sample.Greet(0, true), api.Message{Kind: 1, Was: true}},
		{sample.Ext(7, b), api.Message{Kind: 6, Off: 7, Data: b}},
		{sample.Ext(-1, nil), api.Message{Kind: 6, Off: -1}},
		{sample.Have(63), api.Message{Kind: 7, Off: 63}},
	} {
		if !sample.AlikeMessages(c.got, c.want) {
			t.Errorf("%+v, want %+v", c.got, c.want)
		}
	}
}

// None is an Ext that may be, by each of what an Ext has and has not; all other kinds are there, good ones too.
func TestNoExts(t *testing.T) {
	wrong, kinds := map[string]int{}, map[int]int{}
	for _, m := range sample.NoExts() {
		kinds[m.Kind]++
		all := 0
		for what, is := range map[string]bool{"Kind": m.Kind != 6, "Id": m.Id != 0, "Mask": m.Mask != 0, "Was": m.Was, "Off": m.Off < 0 || m.Off > 63, "Data": len(m.Data) != 64} {
			if is {
				wrong[what]++
				all++
			}
		}
		if all == 0 || m.Kind == 6 && all > 1 {
			t.Errorf("%s: %d things are wrong", sample.Shown(m), all)
		}
	}
	for _, what := range []string{"Kind", "Id", "Mask", "Was", "Off", "Data"} {
		if wrong[what] == 0 {
			t.Errorf("none is wrong by its %s", what)
		}
	}
	for _, kind := range append(sample.MessageKinds(), sample.NoMessageKinds()...) {
		if kinds[kind] == 0 {
			t.Errorf("none is of Kind %d", kind)
		}
	}
}

func TestShown(t *testing.T) {
	for _, c := range []struct {
		m    api.Message
		want string
	}{
		{api.Message{}, "{0 0 0 0x0 false of 0 bytes}"},
		{sample.Greet(255, true), "{1 0 0 0xff true of 0 bytes}"},
		{api.Message{Kind: -2, Id: 3, Off: 4, Data: []byte{5, 6}}, "{-2 3 4 0x0 false 5 6 of 2 bytes}"},
		{sample.Ext(9, make([]byte, 64)), "{6 0 9 0x0 false 0 0 0 0 0 0 0 0 of 64 bytes}"},
	} {
		if got := sample.Shown(c.m); got != c.want {
			t.Errorf("%s, want %s", got, c.want)
		}
	}
}

// By each of them, by how many there are, and by their order.
func TestAlikeAllAndShownAll(t *testing.T) {
	one, two := sample.Have(1), sample.Answer(3, 2)
	for _, c := range []struct {
		a, b []api.Message
		want bool
	}{
		{nil, []api.Message{}, true},
		{nil, []api.Message{one}, false},
		{[]api.Message{one, two}, []api.Message{sample.Have(1), sample.Answer(3, 2)}, true},
		{[]api.Message{one, two}, []api.Message{two, one}, false},
		{[]api.Message{one, two}, []api.Message{one}, false},
		{[]api.Message{one, two}, []api.Message{one, sample.Answer(3, 3)}, false},
	} {
		if sample.AlikeAll(c.a, c.b) != c.want || sample.AlikeAll(c.b, c.a) != c.want {
			t.Errorf("AlikeAll(%v, %v): %v", c.a, c.b, !c.want)
		}
	}
	if got, want := sample.ShownAll([]api.Message{one, two}), []string{sample.Shown(one), sample.Shown(two)}; !slices.Equal(got, want) || len(sample.ShownAll(nil)) != 0 {
		t.Errorf("ShownAll: %v, want %v", got, want)
	}
}
