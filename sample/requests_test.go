package sample_test

import (
	"math"
	"slices"
	"testing"

	"twain/api"
	"twain/sample"
)

// isSettings: may the settings be, by chapter 28's numbers?
func isSettings(c api.Config) bool {
	return c.Sectors%4 == 0 && c.Sectors >= 4 && c.Sectors <= 256 && c.Hot >= 3 && c.Hot <= 16 && c.Table >= 1 && c.Table <= 16 && c.Window >= 1 && c.Window <= 64 && c.Patience >= 2 && c.Patience <= 100
}

// The least and the most of each are among those that may be; each setting alone is wrong in some that may not, by a little and at an int's ends.
func TestSettings(t *testing.T) {
	for _, c := range sample.Settings() {
		if !isSettings(c) {
			t.Errorf("Settings: %+v", c)
		}
	}
	wrong := sample.NoSettings()
	for _, c := range wrong {
		if isSettings(c) {
			t.Errorf("NoSettings: %+v", c)
		}
	}
	base := sample.Settings()[2]
	for _, set := range []func(c *api.Config, n int){
		func(c *api.Config, n int) { c.Sectors = n },
		func(c *api.Config, n int) { c.Hot = n },
		func(c *api.Config, n int) { c.Table = n },
		func(c *api.Config, n int) { c.Window = n },
		func(c *api.Config, n int) { c.Patience = n },
	} {
		for _, n := range []int{math.MinInt, -1, 0, math.MaxInt} {
			c := base
			set(&c, n)
			if !slices.Contains(wrong, c) {
				t.Errorf("NoSettings: %+v is not there", c)
			}
		}
	}
	for _, c := range []api.Config{{}, {Sectors: 15, Hot: 3, Table: 4, Window: 4, Patience: 3}, {Sectors: 260, Hot: 3, Table: 4, Window: 4, Patience: 3}, {Sectors: 16, Hot: 2, Table: 4, Window: 4, Patience: 3}, {Sectors: 16, Hot: 17, Table: 4, Window: 4, Patience: 3}, {Sectors: 16, Hot: 3, Table: 17, Window: 4, Patience: 3}, {Sectors: 16, Hot: 3, Table: 4, Window: 65, Patience: 3}, {Sectors: 16, Hot: 3, Table: 4, Window: 4, Patience: 1}, {Sectors: 16, Hot: 3, Table: 4, Window: 4, Patience: 101}} {
		if !slices.Contains(wrong, c) {
			t.Errorf("NoSettings: %+v is not there", c)
		}
	}
}

func TestReadWriteAndFlush(t *testing.T) {
	b := sample.Bytes(32)
	for _, c := range []struct {
		got, want api.Request
	}{
		{sample.Read(3, 2), api.Request{Kind: api.Read, Span: api.Span{Off: 3, Len: 2}}},
		{sample.Read(-1, math.MaxInt), api.Request{Kind: api.Read, Span: api.Span{Off: -1, Len: math.MaxInt}}},
		{sample.Write(3, 2, b), api.Request{Kind: api.Write, Span: api.Span{Off: 3, Len: 2}, Data: b}},
		{sample.Write(0, 0, nil), api.Request{Kind: api.Write}},
		{sample.Flush(), api.Request{Kind: api.Flush}},
	} {
		if c.got.Kind != c.want.Kind || c.got.Span != c.want.Span || !slices.Equal(c.got.Data, c.want.Data) {
			t.Errorf("%+v, want %+v", c.got, c.want)
		}
	}
}

func TestIsRequest(t *testing.T) {
	for _, r := range []api.Request{sample.Read(0, 1), sample.Read(15, 1), sample.Read(8, 8), sample.Write(0, 1, sample.Bytes(16)), sample.Write(8, 8, sample.Bytes(128)), sample.Flush(), {Kind: 0, Span: api.Span{Len: 1}, Data: []byte{}}} {
		if !sample.IsRequest(16, r) {
			t.Errorf("IsRequest(16, %+v): false", r)
		}
	}
	for _, r := range []api.Request{sample.Read(0, 0), sample.Read(15, 2), sample.Read(16, 1), sample.Read(7, 9), sample.Read(-1, 1), sample.Read(0, -1), sample.Read(math.MaxInt, 1), sample.Write(0, 1, nil), sample.Write(0, 1, sample.Bytes(15)), sample.Write(0, 2, sample.Bytes(16)), {Kind: 2, Data: []byte{1}}, {Kind: 2, Span: api.Span{Len: 1}}, {Kind: 0, Span: api.Span{Len: 1}, Data: []byte{1}}, {Kind: 3}, {Kind: -1}} {
		if sample.IsRequest(16, r) {
			t.Errorf("IsRequest(16, %+v): true", r)
		}
	}
	for _, sectors := range []int{math.MinInt, -1, 0} {
		if sample.IsRequest(sectors, sample.Read(0, 1)) || sample.IsRequest(sectors, sample.Read(sectors, 1)) || !sample.IsRequest(sectors, sample.Flush()) {
			t.Errorf("IsRequest of %d sectors", sectors)
		}
	}
}

// None of them may be, of each size of an area; there are many of each kind, and of none.
func TestNoRequests(t *testing.T) {
	for _, sectors := range []int{4, 8, 16, 60, 252, 256} {
		count := map[int]int{}
		for _, r := range sample.NoRequests(sectors) {
			if sample.IsRequest(sectors, r) {
				t.Errorf("NoRequests(%d): kind %d, %v, %d bytes", sectors, r.Kind, r.Span, len(r.Data))
			}
			count[min(max(r.Kind, -1), 3)]++
		}
		for kind := -1; kind <= 3; kind++ {
			if count[kind] < 20 {
				t.Errorf("NoRequests(%d): %d of kind %d", sectors, count[kind], kind)
			}
		}
		list := sample.NoRequests(sectors)
		for _, want := range []api.Request{sample.Read(0, 0), sample.Read(sectors, 1), sample.Read(sectors-1, 2), sample.Read(0, 9), sample.Write(sectors-1, 2, sample.Bytes(32)), sample.Write(0, 1, nil), sample.Write(0, 1, sample.Bytes(15)), sample.Write(0, 1, sample.Bytes(17))} {
			alike := func(r api.Request) bool {
				return r.Kind == want.Kind && r.Span == want.Span && len(r.Data) == len(want.Data)
			}
			if !slices.ContainsFunc(list, alike) {
				t.Errorf("NoRequests(%d): %+v is not there", sectors, want)
			}
		}
	}
}
