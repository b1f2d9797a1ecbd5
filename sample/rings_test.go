package sample_test

import (
	"testing"

	"twain/api"
	"twain/sample"
	"twain/seal"
)

func TestRingPlace(t *testing.T) {
	for _, c := range []struct {
		n          uint32
		base, ring int
		want       int
	}{{0, 2, 4, 2}, {1, 2, 4, 3}, {3, 2, 4, 5}, {4, 2, 4, 2}, {1<<32 - 1, 2, 4, 5}, {1<<32 - 1, 6, 2, 7}, {1<<32 - 2, 0, 7, 2}} {
		if got := sample.RingPlace(c.n, c.base, c.ring); got != c.want {
			t.Errorf("RingPlace(%d, %d, %d): %d, want %d", c.n, c.base, c.ring, got, c.want)
		}
	}
}

// Ahead of the ring, behind it, in another one of its sectors, and with the number 0, a record does not count.
func TestRingLatest(t *testing.T) {
	d := sample.Disk(8)
	latest := func(number uint32, word uint64) {
		t.Helper()
		if n, w := sample.RingLatest(d, 2, 4); n != number || w != word {
			t.Errorf("RingLatest: %d, %d, want %d, %d", n, w, number, word)
		}
	}
	latest(0, 0)
	sample.Lay(d, 1, seal.Record(7, 70))
	sample.Lay(d, 6, seal.Record(8, 80))
	sample.Lay(d, 2, seal.Record(0, 90))
	sample.Lay(d, 3, seal.Record(4, 40))
	latest(0, 0)
	sample.Lay(d, 4, seal.Record(2, 20))
	latest(2, 20)
	d.Write(3, seal.Record(5, 0))
	latest(5, 0)
	d.Crash(0)
	latest(2, 20)
}

// The next record stands at its place, and all that is cached is flushed, as far as there are operations left.
func TestRingPut(t *testing.T) {
	for k := -1; k < 4; k++ {
		d := sample.Disk(8)
		sample.Lay(d, 4, seal.Record(2, 20))
		d.Write(0, api.Sector{1})
		want := d.Copy()
		d.Fuse(k)
		want.Fuse(k)
		wantE := want.Write(5, seal.Record(3, 30))
		if wantE == api.OK {
			wantE = want.Flush()
		}
		if e := sample.RingPut(d, 2, 4, 30); e != wantE || (e == api.OK) != (k < 0 || k >= 2) || !sample.Alike(d, want) {
			t.Errorf("RingPut with %d operations left: %v, want %v; Cached %v, Ops %d", k, e, wantE, d.Cached(), d.Ops())
		}
	}
}

// The word that the ring has costs nothing; another one is a RingPut, with its error.
func TestRingTurn(t *testing.T) {
	for k := -1; k < 4; k++ {
		for _, word := range []uint64{0, 20, 30} {
			d := sample.Disk(8)
			sample.Lay(d, 4, seal.Record(2, 20))
			d.Write(0, api.Sector{1})
			d.Fuse(k)
			want, wantE := d.Copy(), api.OK
			if word != 20 {
				wantE = sample.RingPut(want, 2, 4, word)
			}
			if e := sample.RingTurn(d, 2, 4, word); e != wantE || !sample.Alike(d, want) {
				t.Errorf("RingTurn of %d with %d operations left: %v, want %v; Cached %v, Ops %d", word, k, e, wantE, d.Cached(), d.Ops())
			}
		}
	}
	fresh := sample.Disk(8)
	if e := sample.RingTurn(fresh, 2, 4, 0); e != api.OK || fresh.Ops() != 0 {
		t.Errorf("RingTurn of 0 on a fresh disk: %v, Ops %d", e, fresh.Ops())
	}
}

// Of all that a sector may hold there is some.
func TestRingSector(t *testing.T) {
	var home, away, nought, none int
	for i, w := range sample.Words() {
		s := sample.RingSector(w, i%4, 4)
		n, _, ok := seal.Open(s)
		switch {
		case !ok:
			none++
		case n == 0:
			nought++
		case int(n%4) == i%4:
			home++
		default:
			away++
		}
	}
	if home < 1000 || away < 50 || nought < 50 || none < 100 {
		t.Errorf("RingSector: %d records at their place, %d elsewhere, %d of the number 0, and %d that are none", home, away, nought, none)
	}
}

// The record that was laid is at its place, durable, and the ring's latest, if its number is the greatest; a disk that lacks a sector of the ring, or is broken, tells of none.
func TestRingLayAndWord(t *testing.T) {
	d := sample.Disk(8)
	for n, want := range map[uint32]int{5: 7, 6: 6, 4294967295: 7} {
		d := sample.Disk(8)
		sample.RingLay(d, 6, 2, n, 9)
		if d.Durable(want) != seal.Record(n, 9) || sample.RingWord(d, 6, 2) != 9 || sample.RingWord(d, 2, 4) != 0 {
			t.Errorf("RingLay of record %d: %v, the word %d", n, d.Durable(want), sample.RingWord(d, 6, 2))
		}
	}
	sample.RingLay(d, 2, 4, 5, 50)
	sample.RingLay(d, 2, 4, 4, 40)
	if sample.RingWord(d, 2, 4) != 50 || sample.RingWord(sample.Broken(d), 2, 4) != 0 {
		t.Errorf("RingWord: %d", sample.RingWord(d, 2, 4))
	}
	small := sample.Disk(7)
	sample.RingLay(small, 6, 2, 6, 9)
	if sample.RingWord(small, 6, 2) != 0 || sample.RingWord(nil, 6, 2) != 0 {
		t.Error("RingWord: a disk that has not all of the ring tells of a word")
	}
}
