package copying_test

import (
	"bytes"
	"testing"

	"twain/api"
	"twain/copying"
	"twain/data"
	"twain/dirty"
	"twain/sample"
)

// Put changes neither the bytes that are handed in, nor those behind their end, nor does the disk keep them, be it done, cut off or refused.
func TestR3BytesHandedIn(t *testing.T) {
	for _, size := range []int{63, 64, 65} {
		for ops := -1; ops <= 8; ops++ {
			d := having(24, 7)
			d.Fuse(ops)
			b, memory := sample.WithRoom(sample.Bytes(size), 99, 40)
			was := bytes.Clone(memory)
			m := sample.Ext(1, b)
			puts(t, "room behind it", d, m)
			if !bytes.Equal(memory, was) || m.Off != 1 || len(m.Data) != size {
				t.Errorf("Put of %d bytes with %d operations changed what was handed in", size, ops)
			}
			like := d.Copy()
			sample.Spoil(b)
			leaves(t, "what was handed in is changed", d, like)
		}
	}
}

// What Give tells is new memory at each call, its spare room too: whoever changes it changes neither the disk nor another answer.
func TestR3WhatIsGiven(t *testing.T) {
	d := having(24, 7)
	d.Write(13, api.Sector{1, 2, 3})
	was, want := d.Copy(), sample.ExtentBytes(d, 1)
	first, _ := copying.Give(d, 1)
	second, _ := copying.Give(d, 1)
	sample.Spoil(first.Data)
	leaves(t, "what was given is changed", d, was)
	if !bytes.Equal(second.Data, want) {
		t.Errorf("an answer that was changed changed another one: %v", second.Data)
	}
	copying.Put(d, sample.Ext(1, make([]byte, 64)))
	if !bytes.Equal(second.Data, want) {
		t.Errorf("a Put changed what was given ahead of it: %v", second.Data)
	}
}

// What is given and put to another disk stays there, whatever becomes of the message and of the disk that gave it; a Have shares nothing with the Ext.
func TestR3WhatIsPut(t *testing.T) {
	from, to := having(24, 7), sample.Disk(24)
	m, _ := copying.Give(from, 1)
	want := bytes.Clone(m.Data)
	told, _ := copying.Put(to, m)
	sample.Spoil(told.Data)
	if !bytes.Equal(m.Data, want) {
		t.Errorf("the Have that was changed changed the Ext: %v", m.Data)
	}
	sample.Spoil(m.Data)
	copying.Put(from, sample.Ext(1, make([]byte, 64)))
	if !bytes.Equal(sample.ExtentBytes(to, 1), want) || !bytes.Equal(sample.ExtentBytes(from, 1), make([]byte, 64)) {
		t.Errorf("what was put became %v, and where it came from %v", sample.ExtentBytes(to, 1), sample.ExtentBytes(from, 1))
	}
}

// What is told hangs on the disk alone: disks that are asked in turn don't know of each other.
func TestR4DisksGoTheirOwnWays(t *testing.T) {
	one, other := having(16, 3), having(24, all)
	for i := range 40 {
		e := i % 2
		image := data.Image(other)
		puts(t, "one", one, sample.Ext(e, sample.Pattern(i, 4)))
		if !bytes.Equal(data.Image(other), image) || dirty.Get(one)>>e&1 != 0 {
			t.Errorf("a Put at one changed the other, or left its bitmap %#x", dirty.Get(one))
		}
		third := one.Copy()
		puts(t, "a copy", third, sample.Ext(e, sample.Pattern(i+100, 4)))
		dirty.Put(one, 3)
		tells(t, "a copy", third, e)
		if dirty.Get(one) != 3 || !bytes.Equal(sample.ExtentBytes(one, e), sample.Pattern(i, 4)) {
			t.Errorf("a copy changed what it is one of: the bitmap %#x, extent %d %v", dirty.Get(one), e, sample.ExtentBytes(one, e))
		}
		tells(t, "the other", other, i)
		gives(t, "the other", other, i%4)
		gives(t, "one", one, 1-e)
		if dirty.Get(one) != 3 {
			t.Errorf("a Told at the other changed the bitmap of one: %#x", dirty.Get(one))
		}
	}
}

// The same calls on disks that are alike tell the same, and leave them alike.
func TestR4TheSameAgain(t *testing.T) {
	one, other := having(24, all), having(24, all)
	for i, w := range sample.Words()[130:400] {
		e, ops := int(w>>8%5), int(w>>20%9)
		one.Fuse(ops)
		other.Fuse(ops)
		first, err := copying.Put(one, sample.Ext(e, sample.Pattern(i, 4)))
		second, again := copying.Put(other, sample.Ext(e, sample.Pattern(i, 4)))
		if !sample.AlikeMessages(first, second) || err != again {
			t.Errorf("Put of %d: %s, %v, and again %s, %v", e, sample.Shown(first), err, sample.Shown(second), again)
		}
		leaves(t, "the same Put", one, other)
		one.Crash(w >> 30)
		other.Crash(w >> 30)
		leaves(t, "the same crash", one, other)
	}
}
