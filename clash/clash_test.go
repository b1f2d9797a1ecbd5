package clash_test

import (
	"math"
	"slices"
	"testing"

	"twain/api"
	"twain/clash"
	"twain/sample"
)

// They are plain numbers, as the chapter writes them: a byte can be one, too.
func TestP23_1TheVerdictsNumbers(t *testing.T) {
	if got := [4]byte{clash.Apply, clash.Over, clash.Retry, clash.Later}; got != [4]byte{0, 1, 2, 3} {
		t.Errorf("Apply, Over, Retry, Later: %v", got)
	}
}

func TestP23_1Example(t *testing.T) {
	own := []clash.Own{sent(0, 4)}
	judged(t, own, at(1, 2), clash.Over, clash.Later)
	judged(t, own, at(3, 2), clash.Retry, clash.Later)
}

// Examples 3 and 4 of the whole: node 1 writes what node 0 writes, too, and what reaches beyond it.
func TestP23_1ExamplesOfTheWhole(t *testing.T) {
	judged(t, []clash.Own{sent(0, 4)}, at(1, 2), isOver, isLater)
	judged(t, []clash.Own{sent(1, 2)}, at(0, 4), isRetried, isLater)
	judged(t, []clash.Own{sent(0, 4)}, at(3, 2), isRetried, isLater)
	judged(t, []clash.Own{sent(3, 2)}, at(0, 4), isRetried, isLater)
}

func TestP23_1NoOwnWrite(t *testing.T) {
	for _, in := range slices.Concat(sample.SmallSpans(6), sample.Spans(), sample.NoSpans()) {
		for _, own := range [][]clash.Own{nil, {}, make([]clash.Own, 0, 5), []clash.Own{sent(0, sample.MostSectors)}[:0]} {
			judged(t, own, in, isApplied, isApplied)
		}
	}
}

// What one own write of the sectors 10 to 14, or of others, is to one that comes.
func TestP23_1OneOwnWrite(t *testing.T) {
	for _, c := range []struct {
		own, in            api.Span
		atArbiter, atOther int
	}{
		// It holds it: exactly, from its first sector on, up to its last one, between, and of one sector.
		{at(10, 5), at(10, 5), isOver, isLater},
		{at(10, 5), at(10, 4), isOver, isLater},
		{at(10, 5), at(10, 1), isOver, isLater},
		{at(10, 5), at(11, 4), isOver, isLater},
		{at(10, 5), at(14, 1), isOver, isLater},
		{at(10, 5), at(11, 3), isOver, isLater},
		{at(10, 5), at(12, 1), isOver, isLater},
		{at(10, 1), at(10, 1), isOver, isLater},
		// One sector is too few: at the one side, at the other one, at both; the one that comes holds it.
		{at(10, 5), at(9, 6), isRetried, isLater},
		{at(10, 5), at(10, 6), isRetried, isLater},
		{at(10, 5), at(9, 7), isRetried, isLater},
		{at(10, 5), at(0, 99), isRetried, isLater},
		{at(10, 1), at(10, 2), isRetried, isLater},
		{at(10, 1), at(9, 2), isRetried, isLater},
		// As many sectors, and moved by one.
		{at(10, 5), at(9, 5), isRetried, isLater},
		{at(10, 5), at(11, 5), isRetried, isLater},
		// They meet at one sector alone.
		{at(10, 5), at(14, 2), isRetried, isLater},
		{at(10, 5), at(14, 8), isRetried, isLater},
		{at(10, 5), at(9, 2), isRetried, isLater},
		{at(10, 5), at(3, 8), isRetried, isLater},
		// It ends where the other one begins, and begins where that ends; and there is room between.
		{at(10, 5), at(15, 1), isApplied, isApplied},
		{at(10, 5), at(15, 8), isApplied, isApplied},
		{at(10, 5), at(9, 1), isApplied, isApplied},
		{at(10, 5), at(2, 8), isApplied, isApplied},
		{at(10, 5), at(16, 8), isApplied, isApplied},
		{at(10, 5), at(0, 9), isApplied, isApplied},
		{at(0, 1), at(1, 1), isApplied, isApplied},
		// At the data area's end.
		{at(248, 8), at(255, 1), isOver, isLater},
		{at(248, 8), at(255, 2), isRetried, isLater},
		{at(248, 8), at(256, 1), isApplied, isApplied},
	} {
		judgedAlone(t, c.own, c.in, c.atArbiter, c.atOther)
	}
}

// Spans that may not be, of the own write or of the one that comes, have no sector in common with any; those at the greatest numbers that may be do.
func TestP23_1SpansThatMayNotBe(t *testing.T) {
	const most = sample.MostSectors
	for _, c := range []struct {
		own, in            api.Span
		atArbiter, atOther int
	}{
		{api.Span{}, api.Span{}, isApplied, isApplied},
		{at(10, 5), at(10, 0), isApplied, isApplied},
		{at(10, 5), at(12, 0), isApplied, isApplied},
		{at(10, 5), at(15, 0), isApplied, isApplied},
		{at(10, 0), at(10, 0), isApplied, isApplied},
		{at(12, 0), at(10, 5), isApplied, isApplied},
		{at(0, 0), at(0, most), isApplied, isApplied},
		{at(10, 5), at(14, -1), isApplied, isApplied},
		{at(10, 5), at(-1, 20), isApplied, isApplied},
		{at(-1, 20), at(10, 5), isApplied, isApplied},
		{at(14, -2), at(10, 5), isApplied, isApplied},
		{at(-3, 2), at(-3, 2), isApplied, isApplied},
		{at(0, most+1), at(0, 1), isApplied, isApplied},
		{at(0, 1), at(0, most+1), isApplied, isApplied},
		{at(most+1, 1), at(most+1, 1), isApplied, isApplied},
		{at(math.MaxInt, 1), at(math.MaxInt, 1), isApplied, isApplied},
		{at(0, math.MaxInt), at(0, 1), isApplied, isApplied},
		{at(math.MaxInt, math.MaxInt), at(math.MaxInt, math.MaxInt), isApplied, isApplied},
		{at(math.MinInt, math.MaxInt), at(math.MinInt, math.MaxInt), isApplied, isApplied},
		{at(math.MinInt, math.MinInt), at(0, 1), isApplied, isApplied},
		{at(0, 1), at(math.MinInt, math.MinInt), isApplied, isApplied},
		{at(0, most), at(most-1, 1), isOver, isLater},
		{at(0, most), at(most-1, 2), isRetried, isLater},
		{at(0, most), at(most, 1), isApplied, isApplied},
		{at(most, most), at(most, most), isOver, isLater},
		{at(most, most-1), at(most, most), isRetried, isLater},
		{at(most, 1), at(most, most), isRetried, isLater},
	} {
		judgedAlone(t, c.own, c.in, c.atArbiter, c.atOther)
	}
}

// Of each span that is not plain, beside those that may be, and beside one another; also where another own write decides.
func TestP23_1NoSpansCountForNothing(t *testing.T) {
	others := []api.Span{{}, at(0, 1), at(3, 2), at(0, api.MaxSectors), at(255, 8), at(sample.MostSectors, 1), at(0, sample.MostSectors), at(sample.MostSectors, sample.MostSectors), at(-1, 3), at(0, math.MaxInt), at(math.MinInt, math.MinInt), at(math.MaxInt, math.MaxInt)}
	for _, no := range append(sample.NoSpans(), at(0, 0), at(4, 0), at(sample.MostSectors, 0)) {
		judgedAlone(t, no, no, isApplied, isApplied)
		for _, s := range others {
			judgedAlone(t, no, s, isApplied, isApplied)
			judgedAlone(t, s, no, isApplied, isApplied)
		}
		spoilt := clash.Own{Span: no, Sent: true}
		judged(t, []clash.Own{spoilt, sent(0, 4)}, at(1, 2), isOver, isLater)
		judged(t, []clash.Own{sent(0, 4), spoilt}, at(3, 2), isRetried, isLater)
		judged(t, []clash.Own{spoilt, unsent(0, 4), spoilt}, at(1, 2), isOver, isApplied)
		judged(t, []clash.Own{sent(0, 4), spoilt, unsent(2, 3)}, no, isApplied, isApplied)
	}
}

// Each pair of plain spans, small ones and those at the ends.
func TestP23_1EachPair(t *testing.T) {
	pairs := func(list []api.Span) {
		for _, s := range list {
			for _, in := range list {
				judgedPlainly(t, []clash.Own{{Span: s, Sent: true}}, in)
				judgedPlainly(t, []clash.Own{{Span: s}}, in)
			}
		}
	}
	pairs(sample.SmallSpans(13))
	pairs(sample.Spans())
}

// The arbiter does not ask whether an own write is Sent: also one that is not holds, or overlaps.
func TestP23_1SentAtTheArbiter(t *testing.T) {
	for _, own := range [][]clash.Own{{unsent(0, 4)}, {unsent(0, 4), sent(8, 1)}, {sent(4, 4), unsent(0, 4)}} {
		if got := clash.Verdict(true, own, at(1, 2)); got != isOver {
			t.Errorf("Verdict of the arbiter, own %v: %d, want Over", own, got)
		}
	}
	judged(t, []clash.Own{unsent(0, 4)}, at(3, 2), isRetried, isApplied)
	// The one that holds it is not Sent, the one that overlaps it is; and the other way round.
	judged(t, []clash.Own{unsent(0, 4), sent(3, 2)}, at(2, 2), isOver, isLater)
	judged(t, []clash.Own{sent(0, 4), unsent(3, 2)}, at(2, 2), isOver, isLater)
}

// At the other node one that is not Sent and overlaps: alone, ahead of one that is Sent, behind it, and with one that is Sent elsewhere.
func TestP23_1SentAtTheOtherNode(t *testing.T) {
	in := at(4, 4)
	judged(t, []clash.Own{unsent(5, 1)}, in, isRetried, isApplied)
	judged(t, []clash.Own{unsent(4, 4)}, in, isOver, isApplied)
	judged(t, []clash.Own{unsent(4, 1), unsent(5, 1), unsent(7, 9)}, in, isRetried, isApplied)
	judged(t, []clash.Own{unsent(5, 1), sent(7, 2)}, in, isRetried, isLater)
	judged(t, []clash.Own{sent(7, 2), unsent(5, 1)}, in, isRetried, isLater)
	judged(t, []clash.Own{unsent(4, 1), sent(5, 1), unsent(7, 1)}, in, isRetried, isLater)
	judged(t, []clash.Own{unsent(5, 1), sent(8, 2)}, in, isRetried, isApplied)
	judged(t, []clash.Own{sent(2, 2), unsent(5, 1)}, in, isRetried, isApplied)
	judged(t, []clash.Own{sent(2, 2), sent(8, 2)}, in, isApplied, isApplied)
}

// Over goes ahead of Retry, wherever the one that holds it stands among those that only overlap it.
func TestP23_1OverGoesAheadOfRetry(t *testing.T) {
	in := at(4, 3)
	overlapping := []clash.Own{sent(0, 5), sent(6, 5), sent(5, 1), unsent(4, 2), sent(5, 2), sent(3, 3)}
	for n := range len(overlapping) + 1 {
		judgedPlainly(t, overlapping[:n], in)
		for place := range n + 1 {
			for _, holds := range []clash.Own{sent(4, 3), unsent(4, 3), sent(3, 5), sent(4, 4), unsent(3, 4)} {
				own := slices.Insert(slices.Clone(overlapping[:n]), place, holds)
				if got := clash.Verdict(true, own, in); got != isOver {
					t.Fatalf("Verdict of the arbiter, own %v, in %v: %d, want Over", own, in, got)
				}
			}
		}
	}
}

// Own writes that only together have all of its sectors do not hold it: none of them does.
func TestP23_1HeldByNoneAlone(t *testing.T) {
	judged(t, []clash.Own{sent(0, 2), sent(2, 2)}, at(1, 2), isRetried, isLater)
	judged(t, []clash.Own{sent(2, 2), sent(0, 2)}, at(0, 4), isRetried, isLater)
	judged(t, []clash.Own{sent(0, 3), sent(1, 3)}, at(0, 4), isRetried, isLater)
	judged(t, []clash.Own{unsent(0, 1), unsent(1, 1), unsent(2, 1)}, at(0, 3), isRetried, isApplied)
}

// One of several decides, the first, the last or one between, with others around it that do not; by many, too.
func TestP23_1OneOfSeveralDecides(t *testing.T) {
	in := at(40, 4)
	aside := []clash.Own{sent(0, 8), unsent(36, 4), sent(44, 1), sent(36, 4), unsent(200, 8), {Sent: true}, sent(41, 0), sent(-1, 99), sent(math.MaxInt, 1)}
	for _, n := range []int{1, 2, 3, 4, 5, 9, 64, 100} {
		own := make([]clash.Own, n)
		for i := range own {
			own[i] = aside[i%len(aside)]
		}
		judged(t, own, in, isApplied, isApplied)
		for place := range n {
			for _, c := range []struct {
				one                clash.Own
				atArbiter, atOther int
			}{
				{sent(40, 4), isOver, isLater},
				{unsent(36, 8), isOver, isApplied},
				{sent(43, 2), isRetried, isLater},
				{unsent(37, 4), isRetried, isApplied},
				{sent(44, 2), isApplied, isApplied},
				{sent(39, 1), isApplied, isApplied},
			} {
				list := slices.Clone(own)
				list[place] = c.one
				judged(t, list, in, c.atArbiter, c.atOther)
			}
		}
	}
}

// Very many own writes: the call ends, and looks at the last one, too.
func TestP23_1VeryManyOwnWrites(t *testing.T) {
	own := make([]clash.Own, 1<<20)
	for i := range own {
		own[i] = sent(2*i, 1)
	}
	last := len(own) - 1
	judged(t, own, at(2*last+1, 8), isApplied, isApplied)
	judged(t, own, at(2*last, 1), isOver, isLater)
	judged(t, own, at(2*last, 2), isRetried, isLater)
	own[last].Sent = false
	judged(t, own, at(2*last, 1), isOver, isApplied)
}

// letters: own writes, Sent and not, some of which hold each of the spans that come, some overlap them, and some do neither.
func letters() []clash.Own {
	var list []clash.Own
	for _, s := range []api.Span{at(0, 2), at(1, 1), at(1, 3), at(2, 1), at(2, 2), at(4, 1), at(1, 0)} {
		list = append(list, clash.Own{Span: s, Sent: true}, clash.Own{Span: s})
	}
	return list
}

// All lists of up to four own writes, with each span that comes; all four verdicts are met, with each number of own writes.
func TestP23_1AllShortLists(t *testing.T) {
	var met [5][4]int
	for _, own := range sample.Rows(letters(), 4) {
		for _, in := range []api.Span{at(1, 1), at(1, 2), at(0, 3), at(2, 2), at(3, 2)} {
			atArbiter, atOther := judgedPlainly(t, own, in)
			met[len(own)][atArbiter]++
			met[len(own)][atOther]++
		}
	}
	for n, counts := range met {
		if n > 0 && slices.Contains(counts[:], 0) {
			t.Errorf("%d own writes: the verdicts were met %v times", n, counts)
		}
	}
}

// chosen: the own write that a word chooses, of so many sectors.
func chosen(w uint64, sectors int) clash.Own {
	return clash.Own{Span: sample.ChosenSpan(w, sectors), Sent: w>>48&1 == 0}
}

// Lists of up to some hundred, of mixed spans, in small data areas and in large ones.
func TestP23_1LongLists(t *testing.T) {
	words := sample.Words()[130:]
	for _, sectors := range []int{8, 64, api.MaxSectors, 1000, sample.MostSectors} {
		var met [4]int
		for n := range 120 {
			own := make([]clash.Own, n)
			for i := range own {
				own[i] = chosen(words[(n*13+i)%len(words)], sectors)
			}
			for i := range 40 {
				in := sample.ChosenSpan(words[(n*17+i*3+700)%len(words)], sectors)
				atArbiter, atOther := judgedPlainly(t, own, in)
				met[atArbiter]++
				met[atOther]++
			}
		}
		if slices.Min(met[:]) < 20 {
			t.Errorf("of %d sectors: the verdicts were met %v times", sectors, met)
		}
	}
}

// In whatever order own writes stand, the verdicts are the same.
func TestP23_1TheOrderOfOwnWrites(t *testing.T) {
	five := []clash.Own{sent(0, 2), unsent(2, 2), sent(4, 4), unsent(8, 1), sent(10, 6)}
	for _, in := range sample.SmallSpans(13) {
		for n := range len(five) + 1 {
			atArbiter, atOther := plainly(five[:n], in)
			for _, order := range sample.Orders(n) {
				own := make([]clash.Own, n)
				for i, place := range order {
					own[i] = five[place]
				}
				judged(t, own, in, atArbiter, atOther)
			}
		}
	}
	words := sample.Words()[130:]
	for n := range 60 {
		own := make([]clash.Own, n)
		for i := range own {
			own[i] = chosen(words[n*20+i], 64)
		}
		for i := range 20 {
			in := sample.ChosenSpan(words[n*5+i+1300], 64)
			atArbiter, atOther := clash.Verdict(true, own, in), clash.Verdict(false, own, in)
			for _, way := range sample.WaysThrough[clash.Own]() {
				judged(t, way(own), in, atArbiter, atOther)
			}
		}
	}
}

// The same one twice, side by side or far apart, and all of them twice.
func TestP23_1TheSameOneTwice(t *testing.T) {
	for _, own := range sample.Rows(letters(), 3) {
		for _, in := range []api.Span{at(1, 1), at(1, 2), at(2, 3), at(3, 1)} {
			atArbiter, atOther := clash.Verdict(true, own, in), clash.Verdict(false, own, in)
			judged(t, slices.Concat(own, own), in, atArbiter, atOther)
			for _, o := range own {
				for place := range len(own) + 1 {
					judged(t, slices.Insert(slices.Clone(own), place, o), in, atArbiter, atOther)
				}
			}
		}
	}
}

func TestP23_1Name(t *testing.T) {
	for verdict, want := range []string{"apply", "over", "retry", "later"} {
		if got := clash.Name(verdict); got != want {
			t.Errorf("Name(%d): %q, want %q", verdict, got, want)
		}
	}
	for verdict, want := range map[int]string{clash.Apply: "apply", clash.Over: "over", clash.Retry: "retry", clash.Later: "later"} {
		if got := clash.Name(verdict); got != want {
			t.Errorf("Name(%d): %q, want %q", verdict, got, want)
		}
	}
}

func TestP23_1NameOfNoVerdict(t *testing.T) {
	wrong := append(sample.Ends(), -1, -2, -3, -4, 4, 5, 6, 7, 8, 127, 128, 255, 256, 257, 258, 259, 1<<16+1, 1<<32+3)
	for _, w := range sample.Words() {
		if n := int(w); n < 0 || n > 3 {
			wrong = append(wrong, n)
		}
	}
	for _, verdict := range wrong {
		if got := clash.Name(verdict); got != "unknown" {
			t.Errorf("Name(%d): %q, want unknown", verdict, got)
		}
	}
}

// Each verdict has a name that is its own.
func TestP23_1VerdictsHaveNames(t *testing.T) {
	met := map[string]int{}
	for _, own := range sample.Rows(letters(), 2) {
		for _, in := range sample.SmallSpans(5) {
			met[clash.Name(clash.Verdict(true, own, in))]++
			met[clash.Name(clash.Verdict(false, own, in))]++
		}
	}
	if met["apply"] == 0 || met["over"] == 0 || met["retry"] == 0 || met["later"] == 0 || len(met) != 4 {
		t.Errorf("the names of all verdicts: %v", met)
	}
}

// The list stays as it was, with the room behind its end, and what stands in that room counts for nothing.
func TestR3WhatIsHandedIn(t *testing.T) {
	for _, list := range sample.Rows(letters(), 3) {
		for _, room := range []int{0, 1, 5} {
			own, memory := sample.WithRoom(list, sent(0, 99), room)
			was := slices.Clone(memory)
			for _, in := range []api.Span{at(1, 1), at(1, 2), at(2, 3), at(8, 1)} {
				judgedPlainly(t, own, in)
			}
			if !slices.Equal(memory, was) {
				t.Fatalf("own %v, with room for %d: it became %v, was %v", list, room, memory, was)
			}
		}
	}
}

// No call keeps what it was given: the same is answered again behind other calls, and another thing of a list that was changed.
func TestR4NothingIsKept(t *testing.T) {
	own := []clash.Own{sent(0, 4), sent(8, 4)}
	for range 3 {
		judged(t, own, at(1, 2), isOver, isLater)
		own[0].Sent = false
		judged(t, own, at(1, 2), isOver, isApplied)
		own[0].Span = at(2, 2)
		judged(t, own, at(1, 2), isRetried, isApplied)
		own[1] = sent(1, 1)
		judged(t, own, at(1, 2), isRetried, isLater)
		own[0], own[1] = sent(8, 4), unsent(3, 1)
		judged(t, own, at(1, 2), isApplied, isApplied)
		judged(t, own[:1], at(8, 1), isOver, isLater)
		own[0], own[1] = sent(0, 4), sent(8, 4)
	}
}
