package keep_test

import (
	"testing"

	"twain/api"
	"twain/keep"
)

// listener is a Keep, and all ticks that came behind the last word, however many, by the calls that were done alone.
type listener struct {
	k        *keep.Keep
	patience int
	silent   int
}

// made: a new Keep of that patience.
func made(t *testing.T, patience int) *keep.Keep {
	t.Helper()
	k, e := keep.New(patience)
	if k == nil || e != api.OK {
		t.Fatalf("New(%d): %v, %v", patience, k, e)
	}
	return k
}

func fresh(t *testing.T, patience int) *listener {
	t.Helper()
	x := &listener{k: made(t, patience), patience: patience}
	x.tells(t, "new")
	return x
}

// stands: does the Keep tell that age, and whether it is alive, however often it is asked, and whichever is asked first?
func stands(t *testing.T, what string, k *keep.Keep, age int, alive bool) {
	t.Helper()
	for range 2 {
		if a, b, c, d := k.Age(), k.Alive(), k.Alive(), k.Age(); a != age || b != alive || c != alive || d != age {
			t.Fatalf("%s: Age %d, Alive %v, Alive %v, Age %d, want %d, %v", what, a, b, c, d, age, alive)
		}
	}
}

// age: what the Keep is to tell: all ticks behind the last word, where those are fewer than patience.
func (x *listener) age() int {
	if x.silent < x.patience {
		return x.silent
	}
	return x.patience
}

func (x *listener) tells(t *testing.T, what string) {
	t.Helper()
	stands(t, what, x.k, x.age(), x.silent < x.patience)
}

func (x *listener) tick(t *testing.T) {
	t.Helper()
	x.k.Tick()
	x.silent++
	x.tells(t, "behind Tick")
}

func (x *listener) ticks(t *testing.T, many int) {
	t.Helper()
	for range many {
		x.tick(t)
	}
}

func (x *listener) heard(t *testing.T) {
	t.Helper()
	x.k.Heard()
	x.silent = 0
	x.tells(t, "behind Heard")
}
