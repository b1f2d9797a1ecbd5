package keep_test

import (
	"math"
	"testing"

	"twain/api"
	"twain/keep"
	"twain/sample"
)

func TestP21_1Example(t *testing.T) {
	k := made(t, 2)
	stands(t, "new", k, 0, true)
	k.Tick()
	stands(t, "behind a Tick", k, 1, true)
	k.Tick()
	stands(t, "behind two", k, 2, false)
	k.Heard()
	stands(t, "behind Heard", k, 0, true)
}

func TestP21_1APatienceOfOne(t *testing.T) {
	k := made(t, 1)
	stands(t, "new", k, 0, true)
	for range 3 {
		for range 5 {
			k.Tick()
			stands(t, "behind a Tick", k, 1, false)
		}
		k.Heard()
		stands(t, "behind Heard", k, 0, true)
	}
}

func TestP21_1TheGreatestPatience(t *testing.T) {
	k := made(t, 100)
	for age := range 100 {
		stands(t, "on the way", k, age, true)
		k.Tick()
	}
	for range 300 {
		stands(t, "behind a hundred ticks", k, 100, false)
		k.Tick()
	}
	k.Heard()
	stands(t, "behind Heard", k, 0, true)
}

// Each patience that may be, and behind New alone: the age is 0, and it is alive.
func TestP21_1New(t *testing.T) {
	if api.MaxPatience != 100 {
		t.Fatalf("MaxPatience is %d", api.MaxPatience)
	}
	for patience := 1; patience <= 100; patience++ {
		stands(t, "new", made(t, patience), 0, true)
	}
}

func TestP21_1NewOfNoPatience(t *testing.T) {
	wrong := append(sample.Ends(), 0, -1, -2, -99, -100, -101, 101, 102, 127, 128, 200, 255, 256, 257, 1<<16+1)
	for _, w := range sample.Words() {
		if n := int(w); n < 1 || n > 100 {
			wrong = append(wrong, n)
		}
	}
	for n := range 70_000 {
		wrong = append(wrong, -n, 101+n)
	}
	for _, patience := range wrong {
		k, e := keep.New(patience)
		if k != nil || e != api.ErrArg {
			t.Fatalf("New(%d): %v, %v, want none, %v", patience, k, e, api.ErrArg)
		}
	}
	for _, patience := range []int{math.MinInt, 0, 101, math.MaxInt} {
		k, _ := keep.New(patience)
		k.Heard()
		k.Tick()
		stands(t, "what New answers beside an error", k, 0, false)
	}
}

// The last tick ahead of patience, the one that comes to it, and many behind it.
func TestP21_1Tick(t *testing.T) {
	for patience := 1; patience <= api.MaxPatience; patience++ {
		k := made(t, patience)
		for range patience - 1 {
			k.Tick()
		}
		stands(t, "the last tick ahead of patience", k, patience-1, true)
		k.Tick()
		stands(t, "the tick that comes to it", k, patience, false)
		for range 3 * patience {
			k.Tick()
			stands(t, "a tick behind it", k, patience, false)
		}
	}
}

// The age stays at patience: however many ticks were too many, one word makes up for all of them.
func TestP21_1VeryManyTicks(t *testing.T) {
	for _, patience := range []int{1, 2, 99, api.MaxPatience} {
		x := fresh(t, patience)
		for range 2 {
			x.ticks(t, 1<<18)
			x.heard(t)
			x.ticks(t, patience-1)
			x.heard(t)
		}
	}
}

// Behind each number of ticks a word, and behind it a word again.
func TestP21_1Heard(t *testing.T) {
	for patience := 1; patience <= api.MaxPatience; patience++ {
		x := fresh(t, patience)
		x.heard(t)
		for many := range patience + 3 {
			x.ticks(t, many)
			x.heard(t)
			x.heard(t)
		}
	}
}

// A word of one that was heard just now changes nothing: no tick is saved up.
func TestP21_1WordsAreNotSavedUp(t *testing.T) {
	for _, patience := range []int{1, 2, 3, 50, api.MaxPatience} {
		for words := range 20 {
			x := fresh(t, patience)
			for range words * words {
				x.heard(t)
			}
			x.ticks(t, patience-1)
			stands(t, "behind words, and ticks below patience", x.k, patience-1, true)
			x.tick(t)
			stands(t, "and one more", x.k, patience, false)
		}
	}
}

func TestP21_1TickAndHeardInTurn(t *testing.T) {
	for patience := 1; patience <= api.MaxPatience; patience++ {
		x := fresh(t, patience)
		for range 500 {
			x.tick(t)
			x.heard(t)
		}
	}
}

// Age and Alive change nothing, however often they are asked: behind the same steps it is as where they were not.
func TestP21_1AskingChangesNothing(t *testing.T) {
	for _, patience := range []int{1, 2, 3, 7, api.MaxPatience} {
		for ticks := range patience + 2 {
			asked, silent := made(t, patience), made(t, patience)
			for n := range ticks {
				asked.Tick()
				silent.Tick()
				for range n%7 + 1 {
					asked.Age()
					asked.Alive()
				}
			}
			want := min(ticks, patience)
			if a, b := asked.Age(), silent.Age(); a != want || b != want {
				t.Fatalf("patience %d, %d ticks: Age %d, and %d where it was not asked, want %d", patience, ticks, a, b, want)
			}
			if a, b := asked.Alive(), silent.Alive(); a != (ticks < patience) || b != a {
				t.Fatalf("patience %d, %d ticks: Alive %v, and %v where it was not asked", patience, ticks, a, b)
			}
		}
	}
}

func TestR4KeepsGoTheirOwnWays(t *testing.T) {
	one, other, same := fresh(t, 3), fresh(t, 5), fresh(t, 3)
	if one.k == same.k {
		t.Fatal("two News answer one Keep")
	}
	tell := func() {
		t.Helper()
		one.tells(t, "the one")
		other.tells(t, "the other")
		same.tells(t, "the one of the same patience")
	}
	for n := range 200 {
		one.tick(t)
		tell()
		if n%4 == 3 {
			other.heard(t)
		}
		tell()
		other.tick(t)
		other.tick(t)
		tell()
		if n%5 == 4 {
			one.heard(t)
		}
		tell()
		if n%2 == 1 {
			same.tick(t)
		}
		if n%11 == 10 {
			same.heard(t)
		}
		tell()
		fresh(t, n%api.MaxPatience+1)
	}
}

// Heard, Tick, Alive and Age in any order, often, and each time all that is told is false, and 0: no call makes it.
func TestR5AKeepThatNoCallMade(t *testing.T) {
	for _, k := range []*keep.Keep{nil, {}, new(keep.Keep)} {
		steps := []func(*keep.Keep){
			(*keep.Keep).Heard,
			(*keep.Keep).Tick,
			func(k *keep.Keep) {
				if k.Alive() {
					t.Fatal("Alive: true")
				}
			},
			func(k *keep.Keep) {
				if age := k.Age(); age != 0 {
					t.Fatalf("Age: %d", age)
				}
			},
		}
		same := func() *keep.Keep { return k }
		for length := 1; length <= 6; length++ {
			sample.AllRuns(length, same, steps)
			stands(t, "of a Keep that no call made", k, 0, false)
		}
		for range 1000 {
			k.Tick()
			stands(t, "behind Tick, of a Keep that no call made", k, 0, false)
		}
		k.Heard()
		stands(t, "behind Heard, of a Keep that no call made", k, 0, false)
	}
}
