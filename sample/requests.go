package sample

import (
	"slices"

	"twain/api"
)

// Settings: settings that may be: the least, the most, those of the document's examples, and some within.
func Settings() []api.Config {
	return []api.Config{
		{Sectors: 4, Hot: 3, Table: 1, Window: 1, Patience: 2},
		{Sectors: 256, Hot: 16, Table: 16, Window: 64, Patience: 100},
		{Sectors: 16, Hot: 3, Table: 4, Window: 4, Patience: 3},
		{Sectors: 16, Hot: 3, Table: 1, Window: 1, Patience: 2},
		{Sectors: 64, Hot: 8, Table: 7, Window: 33, Patience: 50},
		{Sectors: 252, Hot: 4, Table: 15, Window: 63, Patience: 99},
	}
}

// NoSettings: settings that may not be, each by one of them alone, and none at all.
func NoSettings() []api.Config {
	list := []api.Config{{}}
	but := func(set func(c *api.Config)) {
		c := Settings()[2]
		set(&c)
		list = append(list, c)
	}
	for _, n := range append(Ends(), -4, -1, 0) {
		but(func(c *api.Config) { c.Sectors = n })
		but(func(c *api.Config) { c.Hot = n })
		but(func(c *api.Config) { c.Table = n })
		but(func(c *api.Config) { c.Window = n })
		but(func(c *api.Config) { c.Patience = n })
	}
	for _, n := range []int{1, 2, 3, 5, 6, 7, 15, 17, 255, 257, 260, 1024} {
		but(func(c *api.Config) { c.Sectors = n })
	}
	for _, n := range []int{1, 2, 17, 64} {
		but(func(c *api.Config) { c.Hot = n })
	}
	but(func(c *api.Config) { c.Table = 17 })
	but(func(c *api.Config) { c.Window = 65 })
	but(func(c *api.Config) { c.Patience = 1 })
	but(func(c *api.Config) { c.Patience = 101 })
	return list
}

// Read: the request of so many sectors from off on.
func Read(off, n int) api.Request {
	return api.Request{Kind: 0, Span: api.Span{Off: off, Len: n}}
}

// Write: the request that so many sectors from off on are to have those bytes.
func Write(off, n int, b []byte) api.Request {
	return api.Request{Kind: 1, Span: api.Span{Off: off, Len: n}, Data: b}
}

// Flush: the request that has no span.
func Flush() api.Request { return api.Request{Kind: 2} }

// IsRequest: may the request be asked of so many sectors, by chapter 28's words? The greatest Off is counted back from the area's end, so that no sum can wrap.
func IsRequest(sectors int, r api.Request) bool {
	s := r.Span
	short := s.Len >= 1 && s.Len <= 8
	lies := isPlain(s) && short && sectors >= s.Len && s.Off <= sectors-s.Len
	return r.Kind == 0 && lies && len(r.Data) == 0 ||
		r.Kind == 1 && lies && len(r.Data) == 16*s.Len ||
		r.Kind == 2 && s.Off == 0 && s.Len == 0 && len(r.Data) == 0
}

// NoRequests: requests that may not be asked of so many sectors: of no kind, of spans that have no sector, too many, or one that is not there, and with bytes that are none, one too few, one too many, or of a kind that has none.
func NoRequests(sectors int) []api.Request {
	var list []api.Request
	for _, kind := range NoKinds() {
		for _, r := range []api.Request{Read(0, 1), Write(0, 1, Bytes(16)), Flush()} {
			r.Kind = kind
			list = append(list, r)
		}
	}
	for _, n := range append(NoExtents(), Ends()...) {
		for _, s := range []api.Span{{Off: n, Len: 1}, {Off: 0, Len: n}, {Off: sectors - 1, Len: n}, {Off: n, Len: n}} {
			list = append(list, Read(s.Off, s.Len), Write(s.Off, s.Len, Bytes(16)), api.Request{Kind: 2, Span: s})
		}
	}
	for _, s := range []api.Span{{}, {Off: 1}, {Len: 9}, {Off: sectors, Len: 1}, {Off: sectors - 1, Len: 2}, {Off: sectors - 7, Len: 8}, {Off: -1, Len: 2}} {
		list = append(list, Read(s.Off, s.Len), Write(s.Off, s.Len, Bytes(16*s.Len)))
	}
	for n := 1; n <= min(sectors, 8); n++ {
		for _, size := range []int{0, 1, 16*n - 1, 16*n + 1, 16*n - 16, 16*n + 16} {
			list = append(list, Write(0, n, Bytes(size)))
		}
	}
	list = append(list,
		api.Request{Kind: 0, Span: api.Span{Len: 1}, Data: Bytes(1)},
		api.Request{Kind: 0, Span: api.Span{Len: 1}, Data: Bytes(16)},
		api.Request{Kind: 2, Data: Bytes(1)},
		api.Request{Kind: 2, Span: api.Span{Len: 1}},
		api.Request{Kind: 2, Span: api.Span{Off: 1}},
	)
	return slices.DeleteFunc(list, func(r api.Request) bool { return IsRequest(sectors, r) })
}
