package mirror_test

import (
	"fmt"
	"testing"

	"twain/api"
	"twain/sample"
)

// Each row of five steps at either node, held against the chapter's words: writes that overlap one another, Data that come, answers, Gos, Holds and Releases.
func TestP31_4AllShortRuns(t *testing.T) {
	const what = "a short run"
	write := func(ticket, off, n int) func(*node) {
		return func(n2 *node) { n2.writes(t, what, ticket, at(off, n), bytesFor(ticket, at(off, n))) }
	}
	take := func(x api.Message) func(*node) {
		return func(n *node) { n.takes(t, what, x) }
	}
	for who := range 2 {
		sample.AllRuns(4, func() *node { return nodeOf(t, 12, 2, who) }, []func(*node){
			write(1, 2, 3),
			write(2, 5, 2),
			write(1, 8, 4),
			take(dataOf(7, at(3, 3))),
			take(dataOf(8, at(6, 1))),
			take(sample.Answer(isAck, 1)),
			take(sample.Answer(isRetry, 1)),
			take(sample.Answer(isRetry, 2)),
			func(n *node) { n.goes(t, what) },
			func(n *node) { n.holds(t, what) },
			func(n *node) { n.releases(t, what); n.forgets(t, what) },
		})
	}
}

// step: what a word of no pattern chooses: a write, a Data or an answer, of few tickets and Ids, mostly such as may be, a Go, a Hold, a Release, a Forget, a fuse or a crash.
func (n *node) step(t *testing.T, what string, w uint64, sectors int) string {
	t.Helper()
	ticket := 1 + int(w>>40%12)
	s := sample.ChosenSpan(w, sectors)
	switch w % 32 {
	case 0, 1, 2, 3, 4, 5, 6, 7:
		b := sample.Pattern(int(w>>44%999), max(s.Len, 0)%100)
		ok, _, err := n.writes(t, what, ticket, s, b)
		return fmt.Sprint("write ", ok, err)
	case 8, 9, 10, 11, 12, 13:
		x := sample.Data(ticket, s.Off, sample.Pattern(int(w>>44%999), max(s.Len, 0)%100))
		_, told, err := n.takes(t, what, x)
		if len(told) == 0 {
			return fmt.Sprint("data ", err)
		}
		return fmt.Sprint("data ", told[0].Kind)
	case 14, 15, 16, 17, 18, 19, 20:
		kind := 3 + int(w>>50%3)
		if list := n.plain.fly; len(list) > 0 && w>>60 < 12 {
			ticket = list[w>>16%uint64(len(list))].Ticket
		}
		done, _, _ := n.takes(t, what, sample.Answer(kind, ticket))
		return fmt.Sprint("answer ", kind, len(done))
	case 21, 22, 23, 24, 25:
		told, err := n.goes(t, what)
		return fmt.Sprint("go ", err, min(len(told), 3))
	case 26:
		if w>>50%4 == 0 {
			return fmt.Sprint("hold ", n.holds(t, what))
		}
	case 27:
		return fmt.Sprint("release ", min(len(n.releases(t, what)), 2))
	case 28:
		n.forgets(t, what)
	case 29:
		if w>>50%3 == 0 {
			n.fuse(int(w >> 8 % 30))
		}
	default:
		if n.d.Broken() {
			n.crash(w >> 8)
		}
	}
	return "else"
}

// Long runs without a pattern at both nodes, with disks that break and crash: each call is held against the chapter's words, and all that can be met is.
func TestP31_4LongRuns(t *testing.T) {
	met := map[string]int{}
	for _, c := range []struct{ sectors, most int }{{8, 1}, {12, 2}, {24, 3}, {40, 4}, {100, 16}} {
		for who := range 2 {
			n := nodeOf(t, c.sectors, c.most, who)
			for i, w := range sample.Words()[130:] {
				what := fmt.Sprintf("node %d of %d sectors, step %d", who, c.sectors, i)
				met[n.step(t, what, w, c.sectors)]++
			}
		}
	}
	for _, what := range []string{
		"write true ok", "write false ok", "write false argument", "write false down",
		"data 3", "data 4", "data 5", "data ok", "data down", "data argument",
		"answer 3 0", "answer 3 1", "answer 4 1", "answer 5 0",
		"go ok 0", "go ok 1", "go ok 2", "go down 0", "hold ok", "release 0", "release 1", "release 2",
	} {
		if met[what] == 0 {
			t.Errorf("%q is not met: %v", what, met)
		}
	}
}
