package inbox_test

import (
	"math"
	"slices"
	"testing"

	"twain/inbox"
	"twain/sample"
)

func TestP20_1Example(t *testing.T) {
	b := inbox.New()
	for _, c := range []struct {
		seq  int
		took bool
		ack  int
	}{{2, false, 0}, {1, true, 1}, {1, false, 1}, {2, true, 2}} {
		if took, ack := b.Take(c.seq), b.Ack(); took != c.took || ack != c.ack {
			t.Errorf("Take(%d): %v, then Ack %d, want %v, %d", c.seq, took, ack, c.took, c.ack)
		}
	}
}

func TestP20_1New(t *testing.T) {
	x := fresh(t)
	for n := -70_000; n <= 70_000; n++ {
		if n != 1 {
			refuses(t, x.b, 0, n)
		}
	}
	refuses(t, x.b, 0, others(0)...)
	if !x.take(t, 1) {
		t.Error("Take(1): false")
	}
}

func TestP20_1InTurn(t *testing.T) {
	const many = 300_000
	x := fresh(t)
	for n := 1; n <= many; n++ {
		if !x.take(t, n) {
			t.Fatalf("Take(%d): false", n)
		}
	}
	x.tookInOrder(t, many)
}

// Behind each number: itself again, those beside the next one, and what looks like it are not taken, and then the next one is.
func TestP20_1OnlyTheNextOne(t *testing.T) {
	x := fresh(t)
	for last := range 3000 {
		if last < 300 || last%256 > 253 || last%256 < 2 {
			refuses(t, x.b, last, others(last)...)
		}
		refuses(t, x.b, last, last, last+2, last-1, last+3, 0, -1, -last-1, last+1+1<<32, last+1-1<<32)
		x.take(t, last+1)
	}
	x.tookInOrder(t, 3000)
}

// Behind few: no other number of a wide row around them is taken.
func TestP20_1NoneOfAWideRow(t *testing.T) {
	x := fresh(t)
	for last := range 9 {
		for n := -1000; n <= 1000; n++ {
			if n != last+1 {
				refuses(t, x.b, last, n)
			}
		}
		x.take(t, last+1)
	}
}

// What is not taken changes nothing, however often it comes: nor is it taken later unless it comes again.
func TestP20_1WhatIsNotTakenIsNotKept(t *testing.T) {
	for ahead := 2; ahead < 40; ahead++ {
		x := fresh(t)
		for range ahead {
			refuses(t, x.b, 0, ahead)
		}
		for n := 1; n < ahead; n++ {
			x.take(t, n)
		}
		x.tells(t, "ahead of a number that came too soon")
		if x.b.Ack() != ahead-1 || !x.take(t, ahead) {
			t.Fatalf("Take(%d), which came too soon ahead: it is not taken now", ahead)
		}
	}
}

func TestP20_1AckChangesNothing(t *testing.T) {
	asked, silent := inbox.New(), inbox.New()
	for n := 1; n <= 200; n++ {
		for range n {
			if got := asked.Ack(); got != n-1 {
				t.Fatalf("Ack: %d, want %d", got, n-1)
			}
		}
		refuses(t, asked, n-1, n-1, n+1)
		for _, b := range []*inbox.In{asked, silent} {
			if !b.Take(n) {
				t.Fatalf("Take(%d): false", n)
			}
		}
	}
	if asked.Ack() != 200 || silent.Ack() != 200 {
		t.Errorf("Ack: %d, and %d where it was not asked, want 200", asked.Ack(), silent.Ack())
	}
}

// stops: behind which numbers, on the way to the greatest one, the others are tried: about each power of two, and the last ones.
func stops() []int {
	list := []int{most - 3, most - 2, most - 1, most}
	for bit := range 31 {
		for last := 1<<bit - 2; last <= 1<<bit+1; last++ {
			list = append(list, max(last, 0))
		}
	}
	slices.Sort(list)
	return slices.Compact(list)
}

// All numbers that may be taken are taken, one by one; behind the greatest none is.
func TestP20_1TheWholeWay(t *testing.T) {
	if testing.Short() {
		t.Skip("2^31 calls take some seconds")
	}
	t.Parallel()
	b := inbox.New()
	last := 0
	for _, stop := range stops() {
		for last < stop {
			if !b.Take(last + 1) {
				t.Fatalf("Take(%d): false", last+1)
			}
			last++
		}
		if b.Ack() != last {
			t.Fatalf("Ack: %d, want %d", b.Ack(), last)
		}
		refuses(t, b, last, others(last)...)
	}
	for range 3 {
		refuses(t, b, most, most, most+1, most+2, 1<<31, 1<<32, 1<<32+1, 0, 1, 2, -1, math.MinInt32, math.MinInt32+1)
	}
	for n := -100_000; n <= 100_000; n++ {
		refuses(t, b, most, n, most+n)
	}
}

func TestR4InsGoTheirOwnWays(t *testing.T) {
	one, other := fresh(t), fresh(t)
	if one.b == other.b {
		t.Fatal("two News answer one In")
	}
	for n := 1; n <= 50; n++ {
		one.take(t, n)
		other.tells(t, "the other")
		other.take(t, 2*n)
		other.take(t, 2*n-1)
		other.take(t, 2*n)
		one.tells(t, "the one")
		fresh(t)
	}
	one.tookInOrder(t, 50)
	other.tookInOrder(t, 100)
}

func TestR5AnInThatNoCallMade(t *testing.T) {
	for _, b := range []*inbox.In{nil, {}, new(inbox.In)} {
		// Twice: no call makes it.
		for range 2 {
			refuses(t, b, 0, others(0)...)
			for n := -3; n <= 100; n++ {
				refuses(t, b, 0, n)
			}
			for _, w := range sample.Words() {
				refuses(t, b, 0, int(w))
			}
		}
	}
}
