package wait_test

import (
	"math"
	"slices"
	"testing"

	"twain/api"
	"twain/sample"
	"twain/wait"
)

// Sectors that a test's spans have in common, or not.
var (
	here   = at(4, 3)
	within = at(5, 1)
	around = at(0, 9)
	beside = at(7, 2)
	far    = at(200, 8)
)

func TestP16_1Example(t *testing.T) {
	c := scene{l: []wait.Item{item(1, api.Write, at(0, 2)), item(2, api.Read, at(1, 1))}}
	c.may(t, 0, true)
	c.may(t, 1, false)
	c.first(t, 0, 0, true)
	c.first(t, 1, 0, false)
}

// Each kind behind each kind, over the same sectors and over others: only a write ahead holds up, a flush wherever it is.
func TestP16_1EachKindBehindEachKind(t *testing.T) {
	for _, ahead := range sample.Kinds() {
		for _, kind := range sample.Kinds() {
			for _, s := range []api.Span{here, within, around, beside, far} {
				overlap := s != beside && s != far
				want := ahead != api.Write || kind != api.Flush && !overlap
				c := scene{l: []wait.Item{item(1, ahead, s), item(2, kind, here)}}
				c.may(t, 0, true)
				c.may(t, 1, want)
				c.first(t, 0, 0, true)
				if want {
					c.first(t, 1, 1, true)
				} else {
					c.first(t, 1, 0, false)
				}
			}
		}
	}
}

// What stands behind an item holds nothing up, and what holds up needs not stand next to it, nor first.
func TestP16_1WhereTheWriteStands(t *testing.T) {
	for n := 2; n < 9; n++ {
		for write := range n {
			for _, kind := range sample.Kinds() {
				c := scene{l: slices.Repeat([]wait.Item{item(1, api.Read, far)}, n)}
				c.l[write] = item(2, api.Write, here)
				for place := range n {
					if place == write {
						continue
					}
					was := c.l[place]
					c.l[place] = item(3, kind, within)
					c.may(t, place, place < write)
					c.l[place] = was
				}
			}
		}
	}
}

// Behind a write that may not go on itself, what overlaps it may not, either, though nothing else holds it up.
func TestP16_1BehindAWriteThatWaits(t *testing.T) {
	c := scene{
		l:      []wait.Item{item(1, api.Write, at(0, 3)), item(2, api.Read, at(2, 1)), item(3, api.Write, at(2, 2)), item(4, api.Read, at(3, 2)), item(5, api.Read, at(4, 1)), item(6, api.Flush, api.Span{})},
		flying: []wait.Item{item(9, api.Write, at(0, 1))},
	}
	for i, want := range []bool{false, false, false, false, true, false} {
		c.may(t, i, want)
	}
	c.first(t, 0, 4, true)
	c.first(t, 5, 0, false)
}

// An own write on its way holds up reads and writes that overlap it, whatever their tickets; a later one, writes alone.
func TestP16_1FlyingAndLater(t *testing.T) {
	for _, s := range []api.Span{here, within, around, beside, far} {
		overlap := s != beside && s != far
		for _, ticket := range []int{1, 5, 9} {
			for _, kind := range sample.Kinds() {
				c := scene{l: []wait.Item{item(5, kind, here)}, flying: []wait.Item{item(ticket, api.Write, s)}}
				if kind == api.Flush {
					c.may(t, 0, ticket >= 5)
				} else {
					c.may(t, 0, !overlap)
				}
				c = scene{l: c.l, later: []api.Span{s}}
				c.may(t, 0, kind != api.Write || !overlap)
			}
		}
	}
}

// Of several that fly, and of several that are later, each one counts, at whatever place.
func TestP16_1EachOneOfSeveral(t *testing.T) {
	for n := 1; n < 8; n++ {
		for place := range n {
			flying := slices.Repeat([]wait.Item{item(9, api.Write, far)}, n)
			later := slices.Repeat([]api.Span{far}, n)
			l := []wait.Item{item(5, api.Read, here), item(5, api.Write, within), item(5, api.Flush, here)}
			for i, x := range l {
				one := scene{l: []wait.Item{x}, flying: flying, later: later}
				one.may(t, 0, true)
				one.flying = slices.Clone(flying)
				one.flying[place] = item(4, api.Write, around)
				one.may(t, 0, false)
				one.flying = flying
				one.later = slices.Clone(later)
				one.later[place] = around
				one.may(t, 0, i != 1)
			}
		}
	}
}

// A write that only later holds up may go on without it, and the read ahead of it and the one behind it do not ask for it.
func TestP16_1OnlyLaterHoldsUp(t *testing.T) {
	l := []wait.Item{item(1, api.Read, here), item(2, api.Write, here), item(3, api.Read, far), item(4, api.Flush, here)}
	held := scene{l: l, later: []api.Span{within}}
	for i, want := range []bool{true, false, true, false} {
		held.may(t, i, want)
	}
	held.first(t, 1, 2, true)
	free := scene{l: l, later: []api.Span{beside}}
	free.may(t, 1, true)
	free.first(t, 1, 1, true)
}

// Spans that touch do not overlap; one sector in both is enough; those of no sector, and those that are not plain, overlap nothing.
func TestP16_1OverlapsAtTheEdges(t *testing.T) {
	const most = sample.MostSectors
	for _, c := range []struct {
		a, b api.Span
		want bool
	}{
		{at(2, 3), at(5, 2), false},
		{at(2, 4), at(5, 2), true},
		{at(2, 1), at(2, 1), true},
		{at(0, 1), at(1, 1), false},
		{at(0, 8), at(7, 8), true},
		{at(0, 8), at(8, 8), false},
		{at(3, 0), at(3, 0), false},
		{at(3, 0), at(3, 1), false},
		{at(3, 0), at(0, 9), false},
		{api.Span{}, api.Span{}, false},
		{api.Span{}, at(0, 1), false},
		{at(0, most), at(most-1, 1), true},
		{at(0, most), at(most, 1), false},
		{at(most, most), at(most, most), true},
		{at(most, most), at(0, most), false},
		{at(0, most+1), at(0, 1), false},
		{at(-1, 3), at(0, 1), false},
		{at(1, -1), at(0, 4), false},
		{at(0, math.MaxInt), at(0, 1), false},
		{at(math.MaxInt, math.MaxInt), at(math.MaxInt, math.MaxInt), false},
		{at(math.MinInt, math.MaxInt), at(math.MinInt, math.MaxInt), false},
		{at(math.MinInt, math.MinInt), at(0, 1), false},
	} {
		overlapping(t, c.a, c.b, c.want)
		overlapping(t, c.b, c.a, c.want)
	}
}

// overlapping: is a read, and a write, of the span mine held up just so, by the span other, be it of a write ahead, of one that flies, or of one that waits here; and is a flush held up by none of that but the write ahead?
func overlapping(t *testing.T, mine, other api.Span, overlap bool) {
	t.Helper()
	flying, later := []wait.Item{item(7, api.Write, other)}, []api.Span{other}
	for kind, want := range [][3]bool{{!overlap, !overlap, true}, {!overlap, !overlap, !overlap}, {false, true, true}} {
		x := item(5, kind, mine)
		scene{l: []wait.Item{item(4, api.Write, other), x}}.may(t, 1, want[0])
		scene{l: []wait.Item{x}, flying: flying}.may(t, 0, want[1])
		scene{l: []wait.Item{x}, later: later}.may(t, 0, want[2])
	}
}

func TestP16_1EachOverlap(t *testing.T) {
	small := sample.SmallSpans(6)
	for _, a := range small {
		for _, b := range small {
			overlapping(t, a, b, sample.InBoth(a, b))
		}
	}
	few := []api.Span{{}, at(0, 1), at(3, 2), at(0, 256), at(255, 8), at(sample.MostSectors, 1), at(0, sample.MostSectors), at(sample.MostSectors, sample.MostSectors)}
	for _, a := range slices.Concat(sample.Spans(), sample.NoSpans()) {
		overlapping(t, a, a, sample.InBoth(a, a))
		for _, b := range few {
			overlapping(t, a, b, sample.InBoth(a, b))
			overlapping(t, b, a, sample.InBoth(a, b))
		}
	}
}

// A flush asks for no span, neither its own nor another's.
func TestP16_1AFlushHasNoSpan(t *testing.T) {
	for _, mine := range []api.Span{{}, here, far, at(-1, 4), at(math.MaxInt, math.MinInt)} {
		for _, other := range []api.Span{{}, here, around, far, at(-1, 4), at(3, 0), at(math.MaxInt, math.MaxInt)} {
			flush := item(5, api.Flush, mine)
			scene{l: []wait.Item{item(1, api.Write, other), flush}}.may(t, 1, false)
			scene{l: []wait.Item{item(1, api.Read, other), flush}}.may(t, 1, true)
			scene{l: []wait.Item{item(1, api.Flush, other), flush}}.may(t, 1, true)
			scene{l: []wait.Item{flush, item(1, api.Write, other)}}.may(t, 0, true)
			scene{l: []wait.Item{flush}, flying: []wait.Item{item(4, api.Write, other)}}.may(t, 0, false)
			scene{l: []wait.Item{flush}, flying: []wait.Item{item(5, api.Write, other)}}.may(t, 0, true)
			scene{l: []wait.Item{flush}, flying: []wait.Item{item(6, api.Write, other)}}.may(t, 0, true)
			scene{l: []wait.Item{flush}, later: []api.Span{other}}.may(t, 0, true)
		}
	}
}

// tickets: at both ends of an int, at its middle, and with the same low bits as others.
func tickets() []int {
	return []int{math.MinInt, math.MinInt + 1, -1 << 32, math.MinInt32, -2, -1, 0, 1, 2, 1 << 24, math.MaxInt32, 1 << 32, 1<<32 + 1, math.MaxInt - 1, math.MaxInt}
}

// A flush goes behind each that flies with a lesser ticket, and behind no other; reads and writes do not look at tickets.
func TestP16_1TicketsAtTheEnds(t *testing.T) {
	for i, mine := range tickets() {
		for j, other := range tickets() {
			for _, rest := range [][]wait.Item{nil, {item(math.MaxInt, api.Write, far)}} {
				flying := append(rest[:len(rest):len(rest)], item(other, api.Write, beside))
				scene{l: []wait.Item{item(mine, api.Flush, here)}, flying: flying}.may(t, 0, j >= i)
				scene{l: []wait.Item{item(mine, api.Read, here)}, flying: flying}.may(t, 0, true)
				scene{l: []wait.Item{item(mine, api.Write, here)}, flying: flying}.may(t, 0, true)
				scene{l: []wait.Item{item(mine, api.Read, beside)}, flying: flying}.may(t, 0, false)
				scene{l: []wait.Item{item(mine, api.Write, beside)}, flying: flying}.may(t, 0, false)
			}
			// What stands ahead is told by the place, not by the ticket.
			for _, kind := range sample.Kinds() {
				c := scene{l: []wait.Item{item(other, api.Write, here), item(mine, kind, here)}}
				c.may(t, 0, true)
				c.may(t, 1, false)
			}
		}
	}
}

func TestP16_1NoSuchPlace(t *testing.T) {
	for n := range 5 {
		for _, kind := range sample.Kinds() {
			c := scene{l: slices.Repeat([]wait.Item{item(1, kind, api.Span{})}, n)}
			c.askedOutside(t)
			c.flying, c.later = []wait.Item{item(1, api.Write, here)}, []api.Span{here}
			c.askedOutside(t)
		}
	}
}

// The first place and the last one, and what lies beside them.
func TestP16_1FirstAtTheEdges(t *testing.T) {
	for n := 1; n < 9; n++ {
		c := scene{l: slices.Repeat([]wait.Item{item(1, api.Read, here)}, n)}
		for from := range n {
			c.first(t, from, from, true)
		}
		c.first(t, n, 0, false)
		c.first(t, -1, 0, false)
		c.flying = []wait.Item{item(1, api.Write, within)}
		for from := range n {
			c.first(t, from, 0, false)
		}
		// Only one of them may: it is found from each place up to its own, and from none behind it.
		for place := range n {
			one := scene{l: slices.Clone(c.l), flying: c.flying}
			one.l[place].Span = far
			for from := range n {
				if from <= place {
					one.first(t, from, place, true)
				} else {
					one.first(t, from, 0, false)
				}
			}
			one.first(t, n, 0, false)
			one.first(t, -1, 0, false)
		}
	}
}

// What stands ahead of from still holds up what stands behind it.
func TestP16_1FirstLooksAhead(t *testing.T) {
	c := scene{l: []wait.Item{item(1, api.Write, here), item(2, api.Read, within), item(3, api.Flush, api.Span{}), item(4, api.Write, around), item(5, api.Read, far)}}
	c.first(t, 0, 0, true)
	c.first(t, 1, 4, true)
	c.first(t, 3, 4, true)
	c.first(t, 4, 4, true)
	c.first(t, 5, 0, false)
}

// Of another kind than the three none may go on, and none that stands ahead holds up; what flies does, whatever its kind.
func TestP16_1WrongKinds(t *testing.T) {
	for _, wrong := range sample.NoKinds() {
		alone := scene{l: []wait.Item{item(1, wrong, here)}}
		alone.may(t, 0, false)
		alone.first(t, 0, 0, false)
		scene{l: []wait.Item{item(1, wrong, api.Span{}), item(2, wrong, far)}}.first(t, 0, 0, false)
		for _, kind := range sample.Kinds() {
			c := scene{l: []wait.Item{item(1, wrong, here), item(2, kind, here), item(3, wrong, here)}}
			for i, want := range []bool{false, true, false} {
				c.may(t, i, want)
			}
			c.first(t, 0, 1, true)
			c.first(t, 2, 0, false)
			scene{l: []wait.Item{item(2, kind, here)}, flying: []wait.Item{item(1, wrong, within)}}.may(t, 0, false)
			scene{l: []wait.Item{item(2, kind, here)}, flying: []wait.Item{item(2, wrong, beside)}}.may(t, 0, true)
		}
	}
	for _, kind := range sample.Kinds() {
		scene{l: []wait.Item{item(2, kind, here)}, flying: []wait.Item{item(1, api.Read, within)}}.may(t, 0, false)
		scene{l: []wait.Item{item(2, kind, here)}, flying: []wait.Item{item(1, api.Flush, within)}}.may(t, 0, false)
	}
}

// letters: few items, of each kind and of one that is none, over sectors of which each has some in common with the next.
func letters() []wait.Item {
	list := []wait.Item{item(0, 3, at(1, 2))}
	for _, kind := range sample.Kinds() {
		for _, s := range []api.Span{at(0, 2), at(1, 2), at(2, 2)} {
			list = append(list, item(0, kind, s))
		}
	}
	return list
}

// numbered: the items with the tickets 2, 4, 6 and so on.
func numbered(l []wait.Item) []wait.Item {
	l = slices.Clone(l)
	for i := range l {
		l[i].Ticket = 2*i + 2
	}
	return l
}

// All lists of three items at most, with all of two that fly and two that are later at most.
func TestP16_1AllShortLists(t *testing.T) {
	flying := sample.Rows([]wait.Item{item(1, 1, at(0, 1)), item(1, 1, at(9, 1)), item(4, 1, at(2, 1)), item(5, 1, at(1, 1)), item(7, 1, at(3, 1))}, 2)
	later := sample.Rows([]api.Span{at(0, 1), at(1, 1), at(3, 1)}, 2)
	for _, l := range sample.Rows(letters(), 3) {
		l = numbered(l)
		for _, f := range flying {
			for _, s := range later {
				scene{l, f, s}.asked(t)
			}
		}
		scene{l: l}.askedOutside(t)
		scene{l, flying[len(flying)-1], later[len(later)-1]}.askedOutside(t)
	}
}

// All lists of four items, with one that flies, and one that is later, at most.
func TestP16_1AllListsOfFour(t *testing.T) {
	for _, l := range sample.Rows(letters(), 4) {
		l = numbered(l)
		scene{l: l}.asked(t)
		scene{l: l, flying: []wait.Item{item(5, 1, at(3, 1))}}.asked(t)
		scene{l: l, later: []api.Span{at(2, 1)}}.asked(t)
	}
}

// chosen: the item that a word chooses, mostly of a kind, of so many sectors; now and then a long one, one of no sector, or one that is not plain.
func chosen(w uint64, sectors int) wait.Item {
	x := item(int(w>>50), int(w%3), at(int(w>>8%uint64(sectors)), 1+int(w>>24%uint64(api.MaxLen))))
	switch w >> 32 % 32 {
	case 0:
		x.Kind = 3 + int(w>>40%3)
	case 1:
		x.Kind = -1
	case 2:
		x.Span.Len = 0
	case 3:
		x.Span.Len = sectors
	case 4:
		x.Span.Off = -1
	case 5:
		x.Ticket = -x.Ticket
	}
	return x
}

// several: so many items, chosen by the words.
func several(words []uint64, n, sectors int) []wait.Item {
	list := make([]wait.Item, n)
	for i := range list {
		list[i] = chosen(words[i], sectors)
	}
	return list
}

// Lists of up to some hundred, of mixed kinds and spans, in small data areas and in large ones, with none to some that fly and that are later.
func TestP16_1LongLists(t *testing.T) {
	words := sample.Words()[130:]
	for _, sectors := range []int{8, 64, api.MaxSectors, 5000, sample.MostSectors} {
		answers := map[int][2]int{}
		for n := 1; n <= 120; n += 3 {
			for _, others := range []int{0, 1, 2, 5, 16} {
				from := words[(n*13+others*101)%1500:]
				c := scene{l: several(from, n, sectors), flying: several(from[200:], others, sectors)}
				for _, x := range several(from[300:], others, sectors) {
					c.later = append(c.later, x.Span)
				}
				for i, may := range c.asked(t) {
					count := answers[c.l[i].Kind]
					if may {
						count[1]++
					} else {
						count[0]++
					}
					answers[c.l[i].Kind] = count
				}
				c.askedOutside(t)
			}
		}
		for _, kind := range sample.Kinds() {
			if count := answers[kind]; count[1] < 20 || count[0] < 20 && (kind == api.Flush || sectors < 5000) {
				t.Errorf("of %d sectors: kind %d: %d may not, %d may", sectors, kind, count[0], count[1])
			}
		}
	}
}

// Of each list the first one may go on, if it is of a kind.
func TestP16_2TheFirstMay(t *testing.T) {
	words := sample.Words()[130:]
	spans := slices.Concat(sample.SmallSpans(4), []api.Span{at(-1, 3), at(sample.MostSectors, sample.MostSectors), at(math.MinInt, math.MaxInt), at(math.MaxInt, math.MaxInt)})
	for n := range 40 {
		behind := several(words[n*20:], n, 16)
		for _, kind := range sample.Kinds() {
			for _, s := range spans {
				for _, ticket := range []int{math.MinInt, 0, 1, math.MaxInt} {
					c := scene{l: append([]wait.Item{item(ticket, kind, s)}, behind...)}
					c.may(t, 0, true)
					c.first(t, 0, 0, true)
				}
			}
		}
	}
}

// The first one goes, again and again, until none is left: none waits for ever.
func TestP16_2AllGoOn(t *testing.T) {
	for _, l := range sample.Rows(letters()[1:], 3) {
		for l = numbered(l); len(l) > 0; l = l[1:] {
			c := scene{l: l}
			c.may(t, 0, true)
			c.first(t, 0, 0, true)
		}
	}
}

// The lists stay as they were, with the room behind their ends, and what stands in that room counts for nothing, not even at places that it has.
func TestR3WhatIsHandedIn(t *testing.T) {
	words := sample.Words()[130:]
	for n := range 12 {
		for _, room := range []int{0, 1, 7} {
			for _, sectors := range []int{8, 64} {
				l, wholeL := sample.WithRoom(several(words[n*9:], n, sectors), item(1, api.Read, far), room)
				flying, wholeFlying := sample.WithRoom(several(words[n*9+100:], n/3, sectors), item(math.MinInt, api.Write, at(0, 2*sectors)), room)
				later, wholeLater := sample.WithRoom([]api.Span{within, beside}[:n%3], at(0, 2*sectors), room)
				wasL, wasFlying, wasLater := slices.Clone(wholeL), slices.Clone(wholeFlying), slices.Clone(wholeLater)
				c := scene{l, flying, later}
				c.asked(t)
				c.askedOutside(t)
				for i := range room + 1 {
					c.may(t, n+i, false)
					c.first(t, n+i, 0, false)
				}
				if !slices.Equal(wholeL, wasL) || !slices.Equal(wholeFlying, wasFlying) || !slices.Equal(wholeLater, wasLater) {
					t.Fatalf("%s, with room for %d: they became %v, %v, %v", scene{wasL, wasFlying, wasLater}, room, wholeL, wholeFlying, wholeLater)
				}
			}
		}
	}
}

func TestR3NilAndEmpty(t *testing.T) {
	noItems, noSpans := [][]wait.Item{nil, {}, make([]wait.Item, 0, 9)}, [][]api.Span{nil, {}, make([]api.Span, 0, 9)}
	for _, flying := range noItems {
		for _, later := range noSpans {
			for _, l := range noItems {
				c := scene{l, flying, later}
				c.askedOutside(t)
				c.may(t, 0, false)
				c.first(t, 0, 0, false)
			}
			for _, kind := range sample.Kinds() {
				c := scene{[]wait.Item{item(3, kind, here)}, flying, later}
				c.may(t, 0, true)
				c.first(t, 0, 0, true)
			}
		}
	}
}

// No call keeps what it was given: the same is answered again behind other calls, and another thing of lists that were changed.
func TestR4NothingIsKept(t *testing.T) {
	c := scene{l: []wait.Item{item(1, api.Write, here), item(2, api.Read, here)}, flying: []wait.Item{item(1, api.Write, far)}, later: []api.Span{far}}
	for range 3 {
		c.may(t, 1, false)
		c.first(t, 1, 0, false)
		c.l[0].Kind = api.Read
		c.may(t, 1, true)
		c.first(t, 1, 1, true)
		c.flying[0].Span = here
		c.may(t, 1, false)
		c.flying[0].Span = far
		c.l[1].Kind = api.Write
		c.later[0] = within
		c.may(t, 1, false)
		c.l[0].Kind, c.l[1].Kind, c.later[0] = api.Write, api.Read, far
	}
}
