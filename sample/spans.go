package sample

import (
	"math"
	"slices"

	"twain/api"
)

// MostSectors: the greatest Off, and the greatest Len, of a plain span.
const MostSectors = 1 << 30

// Spans: plain spans, with each Off and each Len that may be at the ends and at the borders of extents and of the data area; those of no sector are among them.
func Spans() []api.Span { return CrossedSpans(fitting(), fitting()) }

// NoSpans: spans that are not plain, by their Off, their Len or both.
func NoSpans() []api.Span {
	return slices.Concat(CrossedSpans(outside(), fitting()), CrossedSpans(fitting(), outside()), CrossedSpans(outside(), outside()))
}

// SmallSpans: all spans whose Off and Len are below n; those of no sector are among them.
func SmallSpans(n int) []api.Span {
	few := make([]int, max(n, 0))
	for i := range few {
		few[i] = i
	}
	return CrossedSpans(few, few)
}

// CrossedSpans: the spans of each of the offs with each of the lens.
func CrossedSpans(offs, lens []int) []api.Span {
	var list []api.Span
	for _, off := range offs {
		for _, n := range lens {
			list = append(list, api.Span{Off: off, Len: n})
		}
	}
	return list
}

// NearSpans: spans that begin and end at, within and beside that one, and whatever lies ahead of it or behind it.
func NearSpans(s api.Span) []api.Span {
	end := s.Off + s.Len
	return []api.Span{
		s,
		{Off: s.Off, Len: 1},
		{Off: end - 1, Len: 1},
		{Off: s.Off - 1, Len: 1},
		{Off: s.Off - 1, Len: 2},
		{Off: end - 1, Len: 2},
		{Off: end, Len: 1},
		{Off: s.Off + s.Len/2, Len: 1},
		{Off: s.Off - 1, Len: s.Len + 2},
		{Off: 0, Len: s.Off},
		{Off: end, Len: MostSectors},
		{Off: 0, Len: MostSectors},
		{Off: s.Off},
	}
}

// ChosenSpan: the span that a word chooses, of one to MaxLen sectors that begins among so many; now and then one of all of them, one of no sector, or one that is not plain.
func ChosenSpan(w uint64, sectors int) api.Span {
	s := api.Span{Off: int(w >> 8 % uint64(sectors)), Len: 1 + int(w>>24%api.MaxLen)}
	switch w >> 32 % 32 {
	case 0:
		s.Len = 0
	case 1:
		s.Len = sectors
	case 2:
		s.Off = -s.Off - 1
	case 3:
		s.Len = -s.Len
	}
	return s
}

// InSpan: is the sector in the plain span?
func InSpan(s api.Span, sector int) bool { return sector >= s.Off && sector-s.Off < s.Len }

// InBoth: is there a sector in both spans? None is in a span that is not plain. The first one of those in both is the first one of one of them.
func InBoth(a, b api.Span) bool {
	first := max(a.Off, b.Off)
	return isPlain(a) && isPlain(b) && InSpan(a, first) && InSpan(b, first)
}

// isPlain: are both numbers those of a plain span?
func isPlain(s api.Span) bool {
	return min(s.Off, s.Len) >= 0 && max(s.Off, s.Len) <= MostSectors
}

// fitting: what Off and Len may be.
func fitting() []int {
	const most = MostSectors
	return []int{0, 1, 2, 3, 4, 5, 7, 8, 9, 63, 64, 65, 251, 252, 253, 255, 256, 257, 260, 511, 512, most / 2, most - 257, most - 4, most - 1, most}
}

// outside: what neither Off nor Len may be, by a little, and at the ends of an int.
func outside() []int {
	const most = MostSectors
	return []int{-1, -2, -4, -256, -most, -most - 1, math.MinInt32, math.MinInt64 + 1, math.MinInt64, most + 1, most + 2, 2 * most, math.MaxInt32, 1 << 32, 1<<32 + 1, 1 << 62, math.MaxInt64 - 1, math.MaxInt64}
}
