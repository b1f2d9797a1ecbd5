package hot_test

import (
	"fmt"
	"slices"
	"testing"

	"twain/api"
	"twain/hot"
)

// plain is a set by the chapter's words: of each extent, when it was used last (0: it is not of the set).
type plain struct {
	most int
	used [64]int
	now  int
}

// in: is the extent in that mask?
func in(mask uint64, extent int) bool { return mask>>extent&1 == 1 }

// size: how many extents the mask has.
func size(mask uint64) int {
	n := 0
	for extent := range 64 {
		if in(mask, extent) {
			n++
		}
	}
	return n
}

// maskOf: the mask of the extents.
func maskOf(extents ...int) uint64 {
	var mask uint64
	for _, extent := range extents {
		mask |= uint64(1) << extent
	}
	return mask
}

func (p *plain) mask() uint64 { return maskOf(p.order()...) }

func (p *plain) order() []int {
	var list []int
	for extent := range 64 {
		if p.used[extent] > 0 {
			list = append(list, extent)
		}
	}
	slices.SortFunc(list, func(a, b int) int { return p.used[a] - p.used[b] })
	return list
}

func (p *plain) fits(need, busy uint64) bool {
	n := 0
	for extent := range 64 {
		if in(need, extent) || p.used[extent] > 0 && in(busy, extent) {
			n++
		}
	}
	return n <= p.most
}

// touch: the extents of mask are used now, one behind the other.
func (p *plain) touch(mask uint64) {
	for extent := range 64 {
		if in(mask, extent) {
			p.now++
			p.used[extent] = p.now
		}
	}
}

func (p *plain) use(need, busy uint64) (bool, bool) {
	if !p.fits(need, busy) {
		return false, false
	}
	was := p.mask()
	for _, extent := range p.order() {
		if size(p.mask()|need) > p.most && !in(need, extent) && !in(busy, extent) {
			p.used[extent] = 0
		}
	}
	p.touch(need)
	return p.mask() != was, true
}

func (p *plain) load(mask uint64) {
	p.used = [64]int{}
	p.touch(mask)
}

// pair is a set, and the plain one that it is held against.
type pair struct {
	s *hot.Set
	p *plain
}

// made: a new set for most extents.
func made(t *testing.T, most int) *hot.Set {
	t.Helper()
	s, e := hot.New(most)
	if s == nil || e != api.OK {
		t.Fatalf("New(%d): %v, %v", most, s, e)
	}
	return s
}

func both(t *testing.T, most int) pair {
	t.Helper()
	x := pair{made(t, most), &plain{most: most}}
	x.alike(t, "new")
	return x
}

// alike: does the set tell what the plain one tells?
func (x pair) alike(t *testing.T, what string) {
	t.Helper()
	if got, want := x.s.Mask(), x.p.mask(); got != want {
		t.Fatalf("%s, most %d: Mask %#x, want %#x", what, x.p.most, got, want)
	}
	if got, want := x.s.Order(), x.p.order(); !slices.Equal(got, want) {
		t.Fatalf("%s, most %d: Order %v, want %v", what, x.p.most, got, want)
	}
}

// fits: a Fits, which is to change nothing.
func (x pair) fits(t *testing.T, need, busy uint64) {
	t.Helper()
	what := fmt.Sprintf("of %v, Fits(%#x, %#x)", x.p.order(), need, busy)
	if got, want := x.s.Fits(need, busy), x.p.fits(need, busy); got != want {
		t.Fatalf("%s, most %d: %v, want %v", what, x.p.most, got, want)
	}
	x.alike(t, what)
}

// use: a Use, and what P9.3 says of what follows.
func (x pair) use(t *testing.T, need, busy uint64) (bool, bool) {
	t.Helper()
	was, order := x.p.mask(), x.s.Order()
	what := fmt.Sprintf("of %v, Use(%#x, %#x)", order, need, busy)
	x.fits(t, need, busy)
	turned, ok := x.s.Use(need, busy)
	if wantTurned, wantOk := x.p.use(need, busy); turned != wantTurned || ok != wantOk {
		t.Fatalf("%s, most %d: %v, %v, want %v, %v", what, x.p.most, turned, ok, wantTurned, wantOk)
	}
	x.alike(t, what)
	if !ok {
		if !slices.Equal(x.s.Order(), order) {
			t.Fatalf("%s, most %d, does not fit: Order %v", what, x.p.most, x.s.Order())
		}
		return turned, ok
	}
	mask := x.s.Mask()
	if stays := need | was&busy; mask&stays != stays || size(mask) > x.p.most || mask&^(was|need) != 0 {
		t.Fatalf("%s, most %d: Mask %#x", what, x.p.most, mask)
	}
	return turned, ok
}

func (x pair) load(t *testing.T, mask uint64) {
	t.Helper()
	x.s.Load(mask)
	x.p.load(mask)
	x.alike(t, fmt.Sprintf("Load(%#x)", mask))
}
