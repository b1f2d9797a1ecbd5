package hot_test

import (
	"fmt"
	"math"
	"slices"
	"testing"

	"twain/api"
	"twain/hot"
	"twain/sample"
)

const all = math.MaxUint64

// tells: are these the set's extents, in that order?
func tells(t *testing.T, what string, s *hot.Set, order ...int) {
	t.Helper()
	if got := s.Order(); !slices.Equal(got, order) {
		t.Errorf("%s: Order %v, want %v", what, got, order)
	}
	if got, want := s.Mask(), maskOf(order...); got != want {
		t.Errorf("%s: Mask %#x, want %#x", what, got, want)
	}
}

// uses: does a Use answer that?
func uses(t *testing.T, s *hot.Set, need, busy uint64, turned, ok bool) {
	t.Helper()
	was := s.Order()
	if gotTurned, gotOk := s.Use(need, busy); gotTurned != turned || gotOk != ok {
		t.Errorf("of %v, Use(%#x, %#x): %v, %v, want %v, %v", was, need, busy, gotTurned, gotOk, turned, ok)
	}
}

// orders: all rows of the extents, of none to most of them, each extent once at most.
func orders(extents []int, most int) [][]int {
	rows := [][]int{nil}
	for i := 0; i < len(rows); i++ {
		for _, extent := range extents {
			if len(rows[i]) < most && !slices.Contains(rows[i], extent) {
				rows = append(rows, append(slices.Clone(rows[i]), extent))
			}
		}
	}
	return rows
}

// masks: all masks of the extents.
func masks(extents []int) []uint64 {
	list := []uint64{0}
	for _, extent := range extents {
		for _, mask := range list {
			list = append(list, mask|maskOf(extent))
		}
	}
	return list
}

// few: at most eight extents below within, as the word chooses them.
func few(word uint64, within int) uint64 {
	var mask uint64
	for range word % 9 {
		word = word>>7 | word<<57
		mask |= maskOf(int(word % uint64(within)))
	}
	return mask
}

func TestP9_1New(t *testing.T) {
	for most := 1; most <= api.MaxHot; most++ {
		tells(t, fmt.Sprintf("New(%d)", most), made(t, most))
	}
	for _, most := range []int{0, -1, api.MaxHot + 1, -api.MaxHot, 64, math.MinInt, math.MinInt + 1, math.MaxInt, 1 << 32, 1<<32 + 1} {
		if s, e := hot.New(most); s != nil || e != api.ErrArg {
			t.Errorf("New(%d): %v, %v, want none, %v", most, s, e, api.ErrArg)
		}
	}
}

// Each set is its own.
func TestP9_1TwoSets(t *testing.T) {
	one, other := made(t, 2), made(t, 2)
	one.Use(1, 0)
	other.Use(4, 0)
	one.Use(2, 0)
	tells(t, "the one", one, 0, 1)
	tells(t, "the other", other, 2)
	one.Load(8)
	other.Use(16, 0)
	tells(t, "the one", one, 3)
	tells(t, "the other", other, 2, 4)
}

func TestP9_1Load(t *testing.T) {
	for most := 1; most <= api.MaxHot; most++ {
		x := both(t, most)
		for _, mask := range sample.Words()[:300] {
			x.load(t, mask)
			x.load(t, few(mask, 64))
		}
	}
	s := made(t, 3)
	s.Load(maskOf(63, 0, 7))
	tells(t, "loaded", s, 0, 7, 63)
	s.Load(maskOf(7, 5))
	tells(t, "loaded anew", s, 5, 7)
	s.Use(maskOf(5), 0)
	tells(t, "used", s, 7, 5)
	s.Load(maskOf(7, 5))
	tells(t, "loaded with what it has", s, 5, 7)
	s.Load(0)
	tells(t, "loaded with none", s)
	uses(t, s, maskOf(2), 0, true, true)
	tells(t, "used behind that", s, 2)
}

// There may be more than most; then the first Use that fits makes room, even if it needs none.
func TestP9_1LoadOfMoreThanMost(t *testing.T) {
	s := made(t, 2)
	s.Load(maskOf(1, 3, 5, 7))
	tells(t, "of four", s, 1, 3, 5, 7)
	uses(t, s, maskOf(1, 3, 5), 0, false, false)
	uses(t, s, 0, maskOf(1, 3, 5), false, false)
	uses(t, s, maskOf(9), maskOf(1, 3), false, false)
	tells(t, "refused", s, 1, 3, 5, 7)
	uses(t, s, 0, maskOf(3), true, true)
	tells(t, "with 3 busy", s, 3, 7)
	s.Load(maskOf(1, 3, 5, 7))
	uses(t, s, maskOf(1), maskOf(5), true, true)
	tells(t, "with 5 busy", s, 5, 1)
	s.Load(maskOf(1, 3, 5, 7))
	uses(t, s, maskOf(0, 63), 0, true, true)
	tells(t, "of two more", s, 0, 63)
}

func TestP9_1LoadOfAll(t *testing.T) {
	var whole []int
	for extent := range 64 {
		whole = append(whole, extent)
	}
	for most := 1; most <= api.MaxHot; most++ {
		s := made(t, most)
		for _, need := range []uint64{0, 1, maskOf(63), maskOf(31)} {
			s.Load(all)
			tells(t, "of all", s, whole...)
			uses(t, s, need, all, false, false)
			uses(t, s, all, 0, false, false)
			tells(t, "of all, refused", s, whole...)
			x := pair{s, &plain{most: most}}
			x.p.load(all)
			x.use(t, need, 0)
			if got := len(s.Order()); got != most {
				t.Errorf("of all, most %d: behind Use(%#x, 0) there are %d", most, need, got)
			}
		}
		s.Load(all)
		uses(t, s, 0, 0, true, true)
		tells(t, "of all, used", s, whole[64-most:]...)
	}
}

// What Order told is the caller's: to change, with its spare room, and to keep.
func TestP9_1OrderIsNewMemory(t *testing.T) {
	x := both(t, 4)
	for _, mask := range []uint64{0, maskOf(0), maskOf(1, 2, 3), maskOf(0, 9, 63), maskOf(4, 5, 6, 7), all} {
		x.load(t, mask)
		for _, need := range []uint64{0, maskOf(9), maskOf(2, 3)} {
			kept, first, second := x.s.Order(), x.s.Order(), x.s.Order()
			first = first[:cap(first)]
			for i := range first {
				first[i] = -7
			}
			if !slices.Equal(second, kept) {
				t.Fatalf("of %v: a change of the one answer turned the other to %v", kept, second)
			}
			x.alike(t, "behind a change of what Order told")
			told := slices.Clone(kept)
			x.use(t, need, 0)
			x.use(t, maskOf(8), 0)
			if !slices.Equal(kept, told) {
				t.Fatalf("what Order told, %v, is %v behind a Use", told, kept)
			}
			_ = append(x.s.Order(), 60, 61, 62)
			x.alike(t, "behind more was put to what Order told")
		}
	}
}

func TestP9_2Example(t *testing.T) {
	s := made(t, 2)
	uses(t, s, maskOf(1), 0, true, true)
	uses(t, s, maskOf(2), 0, true, true)
	tells(t, "both", s, 1, 2)
	uses(t, s, maskOf(3), 0, true, true)
	tells(t, "1 leaves", s, 2, 3)
	s = made(t, 2)
	s.Use(maskOf(1), 0)
	s.Use(maskOf(2), 0)
	uses(t, s, maskOf(3), maskOf(1), true, true)
	tells(t, "2 leaves", s, 1, 3)
}

// The Mask is the same behind it: not turned, though it was done.
func TestP9_2UseOfTheOrderAlone(t *testing.T) {
	s := made(t, 3)
	s.Load(maskOf(0, 8, 63))
	uses(t, s, maskOf(0), 0, false, true)
	tells(t, "0 again", s, 8, 63, 0)
	uses(t, s, maskOf(0, 63), all, false, true)
	tells(t, "0 and 63 again", s, 8, 0, 63)
	uses(t, s, maskOf(63), 0, false, true)
	tells(t, "63 again", s, 8, 0, 63)
	uses(t, s, maskOf(63, 8, 0), maskOf(5), false, true)
	tells(t, "all again", s, 0, 8, 63)
	uses(t, s, 0, 0, false, true)
	uses(t, s, 0, all, false, true)
	tells(t, "none", s, 0, 8, 63)
}

func TestP9_2NoneNeeded(t *testing.T) {
	for most := 1; most <= api.MaxHot; most++ {
		s := made(t, most)
		for _, busy := range []uint64{0, 1, maskOf(63), all} {
			uses(t, s, 0, busy, false, true)
			tells(t, "none needed", s)
		}
	}
}

// Just most extents, and one more; of those that are busy only the set's own count.
func TestP9_2JustSoMany(t *testing.T) {
	for most := 1; most <= api.MaxHot; most++ {
		s := made(t, most)
		var low, high []int
		for i := range most {
			low, high = append(low, i), append(high, 64-most+i)
		}
		uses(t, s, maskOf(low...)|maskOf(40), 0, false, false)
		tells(t, "one more than there may be", s)
		uses(t, s, maskOf(high...), all, true, true)
		tells(t, "as many as there may be", s, high...)
		uses(t, s, maskOf(low...)|maskOf(most), 0, false, false)
		uses(t, s, maskOf(low...), maskOf(63), false, false)
		uses(t, s, maskOf(20), maskOf(high...), false, false)
		uses(t, s, all, 0, false, false)
		tells(t, "refused", s, high...)
		uses(t, s, maskOf(low...), ^maskOf(high...), true, true)
		tells(t, "as many others", s, low...)
	}
}

// What is busy is not of the set by that, and it takes no room.
func TestP9_2BusyBesideTheSet(t *testing.T) {
	s := made(t, 2)
	for _, busy := range []uint64{maskOf(9), maskOf(0, 63), all} {
		s.Load(0)
		uses(t, s, maskOf(4, 5), busy, true, true)
		tells(t, "others are busy", s, 4, 5)
		uses(t, s, maskOf(6), busy&^maskOf(4, 5), true, true)
		tells(t, "others are busy", s, 5, 6)
		if !s.Fits(maskOf(7, 8), busy&^maskOf(5, 6)) || s.Fits(maskOf(7, 8), busy|maskOf(5)) {
			t.Errorf("with %#x busy: Fits", busy)
		}
	}
}

// An extent may be needed and busy at once: it counts once, and it is used.
func TestP9_2NeededAndBusy(t *testing.T) {
	s := made(t, 2)
	s.Load(maskOf(1, 2))
	uses(t, s, maskOf(1), maskOf(1, 2), false, true)
	tells(t, "1 again", s, 2, 1)
	uses(t, s, maskOf(2, 3), maskOf(2, 3), true, true)
	tells(t, "2 and 3", s, 2, 3)
	uses(t, s, maskOf(3, 4), maskOf(2, 3, 4), false, false)
	tells(t, "refused", s, 2, 3)
}

// The oldest leaves first, and no more leave than have to.
func TestP9_2WhoLeaves(t *testing.T) {
	s := made(t, 5)
	for _, extent := range []int{30, 10, 50, 20, 40} {
		s.Use(maskOf(extent), 0)
	}
	uses(t, s, maskOf(60), maskOf(30, 50), true, true)
	tells(t, "10 leaves", s, 30, 50, 20, 40, 60)
	uses(t, s, maskOf(20, 5, 6), maskOf(50), true, true)
	tells(t, "30 and 40 leave", s, 50, 60, 5, 6, 20)
	uses(t, s, maskOf(0), maskOf(50, 60, 5, 6), true, true)
	tells(t, "20 leaves", s, 50, 60, 5, 6, 0)
	uses(t, s, maskOf(63, 62, 61, 1), 0, true, true)
	tells(t, "four leave", s, 0, 1, 61, 62, 63)
}

// Need, busy and the set overlap in every way, the set in every order.
func TestP9_2EveryWay(t *testing.T) {
	extents := []int{0, 5, 31, 63}
	for most := 1; most <= 5; most++ {
		for _, order := range orders(extents, most) {
			for _, need := range masks(extents) {
				for _, busy := range masks(extents) {
					x := both(t, most)
					for _, extent := range order {
						x.use(t, maskOf(extent), 0)
					}
					if !slices.Equal(x.s.Order(), order) {
						t.Fatalf("Order %v, want %v", x.s.Order(), order)
					}
					x.use(t, need, busy)
				}
			}
		}
	}
}

// The same behind each Load, of more than most too, and a Use that follows.
func TestP9_2EveryWayBehindALoad(t *testing.T) {
	extents := []int{0, 1, 62, 63}
	for most := 1; most <= 5; most++ {
		for _, mask := range masks(extents) {
			for _, need := range masks(extents) {
				for _, busy := range masks(extents) {
					x := both(t, most)
					x.load(t, mask)
					x.use(t, need, busy)
					x.use(t, maskOf(30), busy)
				}
			}
		}
	}
}

// Each row of four Uses, of some that meet in few extents.
func TestP9_2AllShortRuns(t *testing.T) {
	happen := []func(x pair){
		func(x pair) { x.use(t, maskOf(0), 0) },
		func(x pair) { x.use(t, maskOf(1), maskOf(0)) },
		func(x pair) { x.use(t, maskOf(63), maskOf(1, 2)) },
		func(x pair) { x.use(t, maskOf(0, 2), 0) },
		func(x pair) { x.use(t, maskOf(1, 2, 3), maskOf(63)) },
		func(x pair) { x.use(t, 0, all) },
		func(x pair) { x.load(t, maskOf(0, 3, 63)) },
		func(x pair) { x.load(t, 0) },
	}
	for most := 1; most <= 4; most++ {
		for i := range 8 * 8 * 8 * 8 {
			x := both(t, most)
			for range 4 {
				happen[i%8](x)
				i /= 8
			}
		}
	}
}

// Long runs of no pattern, of each size, with few extents and with all of them.
func TestP9_2LongRuns(t *testing.T) {
	words := sample.Words()
	for most := 1; most <= api.MaxHot; most++ {
		for _, within := range []int{most + 1, 2*most + 3, 64} {
			x := both(t, most)
			fit, not := 0, 0
			for i := 3; i < len(words); i++ {
				need, busy := few(words[i], within), few(words[i-1], 64)|few(words[i-2], within)
				switch words[i-3] % 32 {
				case 0:
					x.load(t, need|busy)
				case 1:
					x.load(t, words[i])
				case 2:
					x.fits(t, words[i], words[i-1])
				}
				if _, ok := x.use(t, need, busy); ok {
					fit++
				} else {
					not++
				}
			}
			if fit == 0 || most < 8 && not == 0 {
				t.Errorf("most %d, within %d: %d Uses fit, and %d do not", most, within, fit, not)
			}
		}
	}
}

// Whatever the extents, those that are needed and those of the set that are busy are there, and no more than there may be.
func TestP9_3WhatFollows(t *testing.T) {
	words := sample.Words()
	for most := 1; most <= api.MaxHot; most++ {
		s := made(t, most)
		for i := 1; i < len(words); i++ {
			was, need, busy := s.Mask(), few(words[i], 20), few(words[i-1], 64)
			_, ok := s.Use(need, busy)
			mask := s.Mask()
			if !ok && mask != was {
				t.Fatalf("of %#x, Use(%#x, %#x) does not fit: Mask %#x", was, need, busy, mask)
			}
			if ok && (need&^mask != 0 || was&busy&^mask != 0 || size(mask) > most) {
				t.Fatalf("of %#x, Use(%#x, %#x), most %d: Mask %#x", was, need, busy, most, mask)
			}
		}
	}
}

func TestR5ASetThatNoCallMade(t *testing.T) {
	for _, s := range []*hot.Set{nil, {}, new(hot.Set)} {
		// Twice: no call makes it.
		for range 2 {
			for _, need := range []uint64{0, 1, 6, maskOf(63), all} {
				for _, busy := range []uint64{0, 1, 6, maskOf(63), all} {
					if s.Fits(need, busy) {
						t.Errorf("Fits(%#x, %#x): true", need, busy)
					}
					uses(t, s, need, busy, false, false)
					tells(t, "behind a Use", s)
				}
				s.Load(need)
				tells(t, "behind a Load", s)
			}
			if s.Order() != nil {
				t.Errorf("Order: %v, want nil", s.Order())
			}
			if s != nil && fmt.Sprint(*s) != fmt.Sprint(hot.Set{}) {
				t.Errorf("a Set that no call made became %v", *s)
			}
		}
	}
}
