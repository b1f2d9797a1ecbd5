package request_test

import (
	"slices"

	"twain/api"
	"twain/sample"
)

// setting is one of a Config's, by its name, where it stands, and its limits by the chapter's words.
type setting struct {
	name              string
	of                func(*api.Config) *int
	least, most, step int
}

// settings: all five.
func settings() []setting {
	return []setting{
		{"Sectors", func(c *api.Config) *int { return &c.Sectors }, 4, 256, 4},
		{"Hot", func(c *api.Config) *int { return &c.Hot }, 3, 16, 1},
		{"Table", func(c *api.Config) *int { return &c.Table }, 1, 16, 1},
		{"Window", func(c *api.Config) *int { return &c.Window }, 1, 64, 1},
		{"Patience", func(c *api.Config) *int { return &c.Patience }, 2, 100, 1},
	}
}

// may: all that the setting may be, counted up.
func (s setting) may() []int {
	var list []int
	for n := s.least; n <= s.most; n += s.step {
		list = append(list, n)
	}
	return list
}

// with: the Config with the setting at n.
func (s setting) with(c api.Config, n int) api.Config {
	*s.of(&c) = n
	return c
}

// want: what Check is to answer.
func want(sectors int, r api.Request) api.Errno {
	if sample.IsRequest(sectors, r) {
		return api.OK
	}
	return api.ErrInvalid
}

// of: a Config of so many sectors whose other settings may be.
func of(sectors int) api.Config {
	return api.Config{Sectors: sectors, Hot: 3, Table: 4, Window: 4, Patience: 3}
}

// write: the request that so many sectors from off on are to have bytes of that size.
func write(off, n, size int) api.Request { return sample.Write(off, n, sample.Bytes(size)) }

// datas: Data of no sector, of each number of sectors that a request may have, and of one more, with a byte fewer and a byte more; nil and empty.
func datas() [][]byte {
	all := [][]byte{nil, {}}
	for n := range 10 {
		for size := max(16*n-1, 1); size <= 16*n+1; size++ {
			all = append(all, sample.Bytes(size))
		}
	}
	return all
}

// allKinds: those that there are, and numbers of none.
func allKinds() []int { return slices.Concat(sample.Kinds(), sample.NoKinds()) }
