package request_test

import (
	"slices"

	"twain/api"
	"twain/sample"
)

// setting is one of a Config's, by its name, where it stands, and its limits by the chapter's words.
type setting struct {
	name              string
	of                func(*api.Config) *int
	least, most, step int
}

// settings: all five.
func settings() []setting {
	return []setting{
		{"Sectors", func(c *api.Config) *int { return &c.Sectors }, 4, 256, 4},
		{"Hot", func(c *api.Config) *int { return &c.Hot }, 3, 16, 1},
		{"Table", func(c *api.Config) *int { return &c.Table }, 1, 16, 1},
		{"Window", func(c *api.Config) *int { return &c.Window }, 1, 64, 1},
		{"Patience", func(c *api.Config) *int { return &c.Patience }, 2, 100, 1},
	}
}

// may: all that the setting may be, counted up.
func (s setting) may() []int {
	var list []int
	for n := s.least; n <= s.most; n += s.step {
		list = append(list, n)
	}
	return list
}

// with: the Config with the setting at n.
func (s setting) with(c api.Config, n int) api.Config {
	*s.of(&c) = n
	return c
}

// goodConfigs: settings that may be: the least, the most, those of the document's examples, and some within.
func goodConfigs() []api.Config {
	return []api.Config{
		{Sectors: 4, Hot: 3, Table: 1, Window: 1, Patience: 2},
		{Sectors: 256, Hot: 16, Table: 16, Window: 64, Patience: 100},
		{Sectors: 16, Hot: 3, Table: 4, Window: 4, Patience: 3},
		{Sectors: 16, Hot: 3, Table: 1, Window: 1, Patience: 2},
		{Sectors: 64, Hot: 8, Table: 7, Window: 33, Patience: 50},
		{Sectors: 252, Hot: 4, Table: 15, Window: 63, Patience: 99},
	}
}

// mayBe: may the request be asked of so many sectors, by the chapter's words? The greatest Off is counted back from the area's end, so that no sum can wrap.
func mayBe(sectors int, r api.Request) bool {
	s := r.Span
	plain := min(s.Off, s.Len) >= 0 && max(s.Off, s.Len) <= sample.MostSectors
	short := s.Len >= 1 && s.Len <= 8
	lies := plain && short && sectors >= s.Len && s.Off <= sectors-s.Len
	return r.Kind == 0 && lies && len(r.Data) == 0 ||
		r.Kind == 1 && lies && len(r.Data) == 16*s.Len ||
		r.Kind == 2 && s.Off == 0 && s.Len == 0 && len(r.Data) == 0
}

// want: what Check is to answer.
func want(sectors int, r api.Request) api.Errno {
	if mayBe(sectors, r) {
		return api.OK
	}
	return api.ErrInvalid
}

// of: a Config of so many sectors whose other settings may be.
func of(sectors int) api.Config {
	return api.Config{Sectors: sectors, Hot: 3, Table: 4, Window: 4, Patience: 3}
}

// read, write, flush: requests of the three kinds.
func read(off, n int) api.Request {
	return api.Request{Kind: api.Read, Span: api.Span{Off: off, Len: n}}
}

func write(off, n, size int) api.Request {
	return api.Request{Kind: api.Write, Span: api.Span{Off: off, Len: n}, Data: sample.Bytes(size)}
}

func flush() api.Request { return api.Request{Kind: api.Flush} }

// datas: Data of no sector, of each number of sectors that a request may have, and of one more, with a byte fewer and a byte more; nil and empty.
func datas() [][]byte {
	all := [][]byte{nil, {}}
	for n := range 10 {
		for size := max(16*n-1, 1); size <= 16*n+1; size++ {
			all = append(all, sample.Bytes(size))
		}
	}
	return all
}

// allKinds: those that there are, and numbers of none.
func allKinds() []int { return slices.Concat(sample.Kinds(), sample.NoKinds()) }
