package plan_test

import (
	"slices"
	"testing"

	"twain/plan"
	"twain/sample"
)

func TestP27_1Example(t *testing.T) {
	p := plan.New(5)
	stands(t, "new", p, 5, 5)
	for _, c := range []struct {
		e    int
		had  bool
		left uint64
	}{{0, true, 4}, {0, false, 4}, {2, true, 0}} {
		if p.Over() {
			t.Errorf("ahead of Have(%d): over", c.e)
		}
		if got := p.Have(c.e); got != c.had {
			t.Errorf("Have(%d): %v, want %v", c.e, got, c.had)
		}
		stands(t, "behind Have", p, c.left, 5)
	}
	if !p.Over() {
		t.Errorf("not over behind all were told")
	}
}

func TestP27_1New(t *testing.T) {
	for _, mask := range append(masks(), sample.Words()...) {
		stands(t, "new", made(t, mask), mask, mask)
	}
}

// Each number, alone, of a new Plan of each mask: it was left just if the mask has it, and it alone is left no longer.
func TestP27_1Have(t *testing.T) {
	for _, mask := range append(masks(), sample.Words()[:200]...) {
		for e := range 64 {
			p := made(t, mask)
			if bit := uint64(1) << e; mask&bit == 0 {
				refuses(t, p, mask, mask, e)
			} else {
				if !p.Have(e) {
					t.Fatalf("of %#x: Have(%d): false", mask, e)
				}
				stands(t, "behind Have", p, mask-bit, mask)
				refuses(t, p, mask-bit, mask, e)
			}
		}
	}
}

func TestP27_1TheLowestAndTheHighest(t *testing.T) {
	for _, e := range []int{0, 63} {
		bit := uint64(1) << e
		for _, mask := range []uint64{bit, 1<<63 | 1, full} {
			x := fresh(t, mask)
			if !x.have(t, e) || x.have(t, e) || x.p.Left() != mask-bit || x.p.Over() != (mask == bit) {
				t.Errorf("of %#x, behind Have(%d): %#x left", mask, e, x.p.Left())
			}
			x = fresh(t, mask&^bit)
			if x.have(t, e) {
				t.Errorf("of %#x: Have(%d): true", x.mask, e)
			}
		}
	}
}

// No set has such a number: not of a new Plan, of one with some left, or none.
func TestP27_1HaveOfNoExtent(t *testing.T) {
	wrong := append(sample.NoExtents(), sample.Ends()...)
	for _, w := range sample.Words() {
		if n := int(w); n < 0 || n > 63 {
			wrong = append(wrong, n)
		}
	}
	for n := range 1100 {
		wrong = append(wrong, -1-n, 64+n)
	}
	for _, mask := range []uint64{0, 1, 1 << 63, 1<<63 | 1, 5, full} {
		x := fresh(t, mask)
		refuses(t, x.p, mask, mask, wrong...)
		for _, e := range sample.Members(mask) {
			refuses(t, x.p, x.left(), mask, sample.NoExtents()...)
			x.have(t, e)
		}
		refuses(t, x.p, 0, mask, wrong...)
	}
}

// It is over from the beginning, and has nothing, whatever is told.
func TestP27_1AMaskOfNone(t *testing.T) {
	p := made(t, 0)
	if !p.Over() || p.Left() != 0 || len(p.All()) != 0 {
		t.Errorf("New(0): Over %v, Left %#x, All %v", p.Over(), p.Left(), p.All())
	}
	for range 2 {
		for e := -70; e < 140; e++ {
			refuses(t, p, 0, 0, e)
		}
	}
}

// All is what the Plan was made with, rising, whatever is left of it.
func TestP27_1All(t *testing.T) {
	for name, way := range sample.WaysThrough[int]() {
		for _, mask := range append(masks(), sample.Words()[130:230]...) {
			p, want := made(t, mask), sample.Members(mask)
			for _, e := range way(want) {
				p.Have(e)
				if got := p.All(); !slices.Equal(got, want) {
					t.Fatalf("%s of %#x: All behind Have(%d): %v", name, mask, e, got)
				}
			}
			if got := p.All(); !p.Over() || !slices.Equal(got, want) {
				t.Fatalf("%s of %#x: Over %v, All behind all were told: %v", name, mask, p.Over(), got)
			}
		}
	}
}

// What was told stays told, however often it comes again, while others are left and when none is.
func TestP27_1ToldAgainAndAgain(t *testing.T) {
	for _, mask := range masks() {
		x := fresh(t, mask)
		var told []int
		for _, e := range sample.Members(mask) {
			if !x.have(t, e) {
				t.Fatalf("of %#x: Have(%d): false", mask, e)
			}
			told = append(told, e)
			refuses(t, x.p, x.left(), mask, told...)
			refuses(t, x.p, x.left(), mask, sample.Falling(told)...)
		}
		for range 50 {
			refuses(t, x.p, 0, mask, told...)
		}
	}
}

// Left, Over and All change nothing: behind the same steps a Plan is as one that was not asked.
func TestP27_1AskingChangesNothing(t *testing.T) {
	for _, mask := range masks() {
		asked, silent := made(t, mask), made(t, mask)
		for n, e := range sample.Mixed(sample.Members(mask)) {
			for range n%5 + 1 {
				asked.Left()
				asked.Over()
				asked.All()
			}
			for _, p := range []*plan.Plan{asked, silent} {
				if !p.Have(e) || p.Have(e) {
					t.Fatalf("of %#x: Have(%d), twice: not true, false", mask, e)
				}
			}
		}
		stands(t, "asked", asked, 0, mask)
		stands(t, "not asked", silent, 0, mask)
	}
}

// A caller may change a list that All answered, its spare room too: the next one is as it was, and so is the Plan.
func TestR3AllIsNewMemory(t *testing.T) {
	for _, mask := range append(masks(), sample.Words()[130:230]...) {
		x := fresh(t, mask)
		for _, e := range sample.Mixed(sample.Members(mask)) {
			first, second := x.p.All(), x.p.All()
			sample.Spoil(first)
			if !slices.Equal(second, sample.Members(mask)) {
				t.Fatalf("of %#x: two lists share memory: %v", mask, second)
			}
			x.tells(t, "behind a list that was changed")
			x.have(t, e)
		}
		sample.Spoil(x.p.All())
		x.tells(t, "over, behind a list that was changed")
	}
}

func TestR4PlansGoTheirOwnWays(t *testing.T) {
	one, other, same := fresh(t, full), fresh(t, 0xaaaaaaaaaaaaaaaa), fresh(t, full)
	if one.p == same.p {
		t.Fatal("two News answer one Plan")
	}
	tell := func() {
		t.Helper()
		one.tells(t, "the one")
		other.tells(t, "the other")
		same.tells(t, "the one of the same mask")
	}
	for n := range 64 {
		one.have(t, n)
		tell()
		other.have(t, 63-n)
		tell()
		same.have(t, n*37%64)
		tell()
		fresh(t, full>>n)
	}
	if !one.p.Over() || !other.p.Over() || !same.p.Over() {
		t.Error("each was told all, and is not over")
	}
}

// Have, Left, Over and All in any order, often: no call makes it, and nothing is left of it.
func TestR5APlanThatNoCallMade(t *testing.T) {
	for _, p := range []*plan.Plan{nil, {}, new(plan.Plan)} {
		steps := []func(*plan.Plan){
			func(p *plan.Plan) { refuses(t, p, 0, 0, 0, 1, 63, -1, 64) },
			func(p *plan.Plan) {
				if left := p.Left(); left != 0 {
					t.Fatalf("Left: %#x", left)
				}
			},
			func(p *plan.Plan) {
				if !p.Over() {
					t.Fatal("Over: false")
				}
			},
			func(p *plan.Plan) {
				if all := p.All(); all != nil {
					t.Fatalf("All: %v", all)
				}
			},
		}
		for length := 1; length <= 5; length++ {
			sample.AllRuns(length, func() *plan.Plan { return p }, steps)
		}
		for range 2 {
			for e := -70; e < 140; e++ {
				refuses(t, p, 0, 0, e)
			}
			refuses(t, p, 0, 0, sample.NoExtents()...)
			refuses(t, p, 0, 0, sample.Ends()...)
		}
		if p != nil && *p != (plan.Plan{}) {
			t.Errorf("it became %v", *p)
		}
	}
}
