package keep_test

import (
	"testing"

	"twain/api"
	"twain/sample"
)

// follows: what P21.2 says, wherever the Keep stands: a word, and as many ticks as patience less one: it is alive; one more: it is not; a word: it is.
func follows(t *testing.T, x *listener) {
	t.Helper()
	x.heard(t)
	if !x.k.Alive() {
		t.Fatalf("patience %d: not alive behind a word", x.patience)
	}
	x.ticks(t, x.patience-1)
	if !x.k.Alive() {
		t.Fatalf("patience %d: not alive behind a word, and %d ticks", x.patience, x.patience-1)
	}
	x.tick(t)
	if x.k.Alive() {
		t.Fatalf("patience %d: alive behind as many ticks without a word", x.patience)
	}
	x.heard(t)
	if !x.k.Alive() {
		t.Fatalf("patience %d: not alive behind a word, which came late", x.patience)
	}
}

// As many ticks as patience, whatever was ahead, and it is not alive: also where the last word lies further back.
func TestP21_2TicksWithoutAWord(t *testing.T) {
	for patience := 1; patience <= api.MaxPatience; patience++ {
		for ahead := range patience + 3 {
			x := fresh(t, patience)
			x.ticks(t, ahead)
			x.ticks(t, patience)
			if x.k.Alive() {
				t.Fatalf("patience %d: alive behind %d ticks, and %d more", patience, ahead, patience)
			}
			follows(t, x)
		}
	}
}

// All short runs of ticks and words, with Age and Alive behind each.
func TestP21_1AllShortRuns(t *testing.T) {
	for patience := 1; patience <= 6; patience++ {
		sample.AllRuns(10, func() *listener { return fresh(t, patience) }, []func(*listener){
			func(x *listener) { x.tick(t) },
			func(x *listener) { x.heard(t) },
		})
	}
}

// Behind each of them, and behind runs with many ticks at once, P21.2 holds.
func TestP21_2AllShortRuns(t *testing.T) {
	for _, patience := range []int{1, 2, 3, 4, 5, api.MaxPatience} {
		sample.AllRuns(5, func() *listener { return fresh(t, patience) }, []func(*listener){
			func(x *listener) { x.tick(t) },
			func(x *listener) { x.heard(t) },
			func(x *listener) { x.ticks(t, x.patience-1) },
			func(x *listener) { x.ticks(t, x.patience) },
			func(x *listener) { follows(t, x) },
		})
	}
}

// Long runs of no pattern: words that come often, now and then, and hardly ever.
func TestP21_1LongRuns(t *testing.T) {
	for patience := 1; patience <= api.MaxPatience; patience++ {
		x := fresh(t, patience)
		lost, late := 0, 0
		for i, w := range sample.Words() {
			seldom := uint64(max(2, patience*(i/300%4)/2))
			if w>>20%seldom == 0 {
				if !x.k.Alive() {
					late++
				}
				x.heard(t)
				continue
			}
			was := x.k.Alive()
			x.tick(t)
			if was && !x.k.Alive() {
				lost++
			}
			if i%500 == 499 {
				follows(t, x)
			}
		}
		if lost == 0 || late == 0 {
			t.Errorf("patience %d: lost %d times, and heard again %d times", patience, lost, late)
		}
	}
}
