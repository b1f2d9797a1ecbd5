package plan_test

import (
	"math"
	"slices"
	"testing"

	"twain/plan"
	"twain/sample"
)

const full = math.MaxUint64

// teller is a Plan, the mask that it was made with, and all that was told of it, by the calls that were done alone.
type teller struct {
	p    *plan.Plan
	mask uint64
	told map[int]bool
}

// masks: of none, one, several and all extents, at the lowest, the highest and the borders of 32 bits.
func masks() []uint64 {
	return []uint64{0, 1, 2, 5, 1 << 31, 1 << 32, 1 << 62, 1 << 63, 1<<63 | 1, 0b1011_0110, 1<<33 | 1<<31 | 1<<5, 0x5555555555555555, 0xaaaaaaaaaaaaaaaa, 0x00000000ffffffff, 0xffffffff00000000, full - 1, full >> 1, full}
}

// made: a new Plan of the mask.
func made(t *testing.T, mask uint64) *plan.Plan {
	t.Helper()
	p := plan.New(mask)
	if p == nil {
		t.Fatalf("New(%#x): nil", mask)
	}
	return p
}

func fresh(t *testing.T, mask uint64) *teller {
	t.Helper()
	x := &teller{p: made(t, mask), mask: mask, told: map[int]bool{}}
	x.tells(t, "new")
	return x
}

// stands: does the Plan tell that, however often it is asked, and whichever is asked first?
func stands(t *testing.T, what string, p *plan.Plan, left, whole uint64) {
	t.Helper()
	all := sample.Members(whole)
	for range 2 {
		if a, b, c, d := p.Left(), p.Over(), p.Over(), p.Left(); a != left || b != (left == 0) || c != b || d != left {
			t.Fatalf("%s: Left %#x, Over %v, Over %v, Left %#x, want %#x", what, a, b, c, d, left)
		}
		if got := p.All(); !slices.Equal(got, all) {
			t.Fatalf("%s: All %v, want %v", what, got, all)
		}
	}
}

// left: the sum of those that were not told.
func (x *teller) left() uint64 {
	var set uint64
	for _, e := range sample.Members(x.mask) {
		if !x.told[e] {
			set += 1 << e
		}
	}
	return set
}

func (x *teller) tells(t *testing.T, what string) {
	t.Helper()
	stands(t, what, x.p, x.left(), x.mask)
}

// have: a Have, which is to answer whether it was left, and what is told then.
func (x *teller) have(t *testing.T, e int) bool {
	t.Helper()
	was := x.left()
	want := slices.Contains(sample.Members(was), e)
	got := x.p.Have(e)
	if got != want {
		t.Fatalf("of %#x, %#x left: Have(%d): %v, want %v", x.mask, was, e, got, want)
	}
	x.told[e] = true
	x.tells(t, "behind Have")
	return got
}

// refuses: is none of the numbers left, and is the Plan behind each as it was?
func refuses(t *testing.T, p *plan.Plan, left, whole uint64, numbers ...int) {
	t.Helper()
	for _, e := range numbers {
		if p.Have(e) {
			t.Fatalf("of %#x, %#x left: Have(%d): true", whole, left, e)
		}
		stands(t, "behind a Have of what is not left", p, left, whole)
	}
}
