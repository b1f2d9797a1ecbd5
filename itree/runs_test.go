package itree_test

import (
	"fmt"
	"testing"

	"twain/api"
	"twain/sample"
)

// Five spans, put in in each order, and taken out in each order: whichever stands at the top, at an end, or between.
func TestP14_1AllShortRuns(t *testing.T) {
	five := []entry{
		{api.Span{Off: 0, Len: 9}, 4},
		{api.Span{Off: 2, Len: 1}, 3},
		{api.Span{Off: 2, Len: 3}, 1},
		{api.Span{Off: 2, Len: 3}, 2},
		{api.Span{Off: 5, Len: 2}, 0},
	}
	for _, in := range sample.Orders(5) {
		for _, out := range sample.Orders(5) {
			a := both()
			for _, i := range in {
				a.goes(t, a.insert, five[i], true)
			}
			for _, i := range out {
				a.goes(t, a.remove, five[i], true)
			}
			ids(t, a.x)
		}
	}
}

// The same of seven, put in in each order, and each one of them taken out, and put in again.
func TestP14_1EachOneTakenOut(t *testing.T) {
	seven := []entry{
		{api.Span{Off: 0, Len: 2}, 0},
		{api.Span{Off: 1, Len: 12}, 0},
		{api.Span{Off: 3, Len: 3}, 0},
		{api.Span{Off: 4, Len: 1}, 0},
		{api.Span{Off: 6, Len: 1}, 0},
		{api.Span{Off: 8, Len: 2}, 0},
		{api.Span{Off: 9, Len: 1}, 0},
	}
	for _, in := range sample.Orders(7) {
		a := both()
		for _, i := range in {
			a.p.insert(seven[i])
			a.x.Insert(seven[i].s, seven[i].id)
		}
		a.tells(t, fmt.Sprint(in))
		for _, e := range seven {
			a.goes(t, a.remove, e, true)
			a.goes(t, a.insert, e, true)
		}
	}
}

// Some hundreds, put in and taken out in each order, with all asked for behind each call, and then once more.
func TestP14_1LongRuns(t *testing.T) {
	ways := sample.WaysThrough[entry]()
	entries := rising(240)
	for in, put := range ways {
		for out, take := range ways {
			t.Run(in+" in, "+out+" out", func(t *testing.T) {
				a := both()
				for range 2 {
					for _, e := range put(entries) {
						a.goes(t, a.insert, e, true)
					}
					for _, e := range put(entries)[:20] {
						a.goes(t, a.insert, e, false)
					}
					for _, e := range take(entries) {
						a.goes(t, a.remove, e, true)
					}
					ids(t, a.x)
				}
			})
		}
	}
}

// chosen: the entry that a word chooses, of so many sectors and ids; now and then a long one.
func chosen(w uint64, within, ids int) entry {
	e := entry{api.Span{Off: int(w >> 8 % uint64(within)), Len: 1 + int(w>>24%6)}, int(w>>32%uint64(ids)) - ids/2}
	if w>>40%16 == 0 {
		e.s.Len = 1 + int(w>>44%uint64(within))
	}
	return e
}

// Inserts and Deletes in turn, without a pattern, of few spans that come again and of many.
func TestP14_1MixedRuns(t *testing.T) {
	words := sample.Words()[130:]
	for _, c := range []struct{ within, ids int }{{4, 1}, {8, 3}, {30, 2}, {300, 5}, {most, 100}} {
		a := both()
		for i, w := range words {
			e := chosen(w, c.within, c.ids)
			// More go in than out, then more out than in.
			out := w%8 < 2
			if i/500%2 == 1 {
				out = w%8 < 6
			}
			if !out {
				a.insert(t, e)
			} else if w>>60 < 12 && len(a.p.list) > 0 {
				a.goes(t, a.remove, a.p.list[int(w>>8%uint64(len(a.p.list)))], true)
			} else {
				a.remove(t, e)
			}
			a.finds(t, "behind a step", chosen(w>>3^w<<20, c.within, 1).s, chosen(w>>5^w<<11, c.within, 1).s)
		}
	}
}
