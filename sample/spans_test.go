package sample_test

import (
	"math"
	"slices"
	"testing"

	"twain/api"
	"twain/sample"
)

// may: are both numbers those of a plain span?
func may(s api.Span) bool {
	return min(s.Off, s.Len) >= 0 && max(s.Off, s.Len) <= 1073741824
}

// The ends are among them, and no others than the name says.
func TestSpans(t *testing.T) {
	plain, not := sample.Spans(), sample.NoSpans()
	for _, s := range plain {
		if !may(s) {
			t.Errorf("Spans: %v is not plain", s)
		}
	}
	for _, s := range not {
		if may(s) {
			t.Errorf("NoSpans: %v is plain", s)
		}
	}
	const most = 1073741824
	for _, s := range []api.Span{{}, {Off: 0, Len: 1}, {Off: 0, Len: most}, {Off: most, Len: 0}, {Off: most, Len: 1}, {Off: most, Len: most}} {
		if !slices.Contains(plain, s) {
			t.Errorf("Spans: %v is not there", s)
		}
	}
	for _, s := range []api.Span{{Off: -1, Len: 1}, {Off: 1, Len: -1}, {Off: most + 1, Len: 1}, {Off: 1, Len: most + 1}, {Off: math.MinInt, Len: math.MinInt}, {Off: math.MaxInt, Len: math.MaxInt}, {Off: math.MaxInt, Len: 1}} {
		if !slices.Contains(not, s) {
			t.Errorf("NoSpans: %v is not there", s)
		}
	}
}

func TestSmallSpans(t *testing.T) {
	if got, want := sample.SmallSpans(2), []api.Span{{}, {Len: 1}, {Off: 1}, {Off: 1, Len: 1}}; !slices.Equal(got, want) {
		t.Errorf("SmallSpans(2): %v, want %v", got, want)
	}
	if got := sample.SmallSpans(13); len(got) != 169 || got[168] != (api.Span{Off: 12, Len: 12}) {
		t.Errorf("SmallSpans(13): %v", got)
	}
	for _, n := range []int{0, -1, math.MinInt} {
		if got := sample.SmallSpans(n); len(got) != 0 {
			t.Errorf("SmallSpans(%d): %v", n, got)
		}
	}
}

// Of a span within a data area there are some that overlap it, at either end alone too, and some beside it, of which the one ends where it begins, and the other begins where it ends.
func TestNearSpans(t *testing.T) {
	for _, s := range []api.Span{{Off: 5, Len: 1}, {Off: 5, Len: 2}, {Off: 8, Len: 8}} {
		end := s.Off + s.Len
		near := sample.NearSpans(s)
		for _, want := range []api.Span{s, {Off: s.Off - 1, Len: 2}, {Off: end - 1, Len: 2}, {Off: s.Off - 1, Len: 1}, {Off: end, Len: 1}, {Off: s.Off - 1, Len: s.Len + 2}} {
			if !slices.Contains(near, want) {
				t.Errorf("NearSpans(%v): %v is not there", s, want)
			}
		}
		overlap := 0
		for _, x := range near {
			if !may(x) {
				t.Errorf("NearSpans(%v): %v is not plain", s, x)
			}
			if sample.InBoth(s, x) {
				overlap++
			}
		}
		if overlap != 8 || len(near) != 13 {
			t.Errorf("NearSpans(%v): %d of %d overlap it", s, overlap, len(near))
		}
	}
}

// Each kind is met, and each of them often enough; the same word chooses the same span.
func TestChosenSpan(t *testing.T) {
	for _, sectors := range []int{1, 8, api.MaxSectors, sample.MostSectors} {
		var plain, whole, empty, not int
		for _, w := range sample.Words() {
			s := sample.ChosenSpan(w, sectors)
			switch {
			case !may(s):
				not++
			case s.Len == 0:
				empty++
			case s.Len > api.MaxLen:
				whole++
			default:
				plain++
			}
			if may(s) && (s.Off >= sectors || s.Len > max(sectors, api.MaxLen)) || s != sample.ChosenSpan(w, sectors) {
				t.Fatalf("ChosenSpan(%x, %d): %v", w, sectors, s)
			}
		}
		if plain < 1500 || empty < 30 || not < 60 || (sectors > api.MaxLen) != (whole > 30) {
			t.Errorf("of %d sectors: %d plain, %d of all, %d of no sector, %d not plain", sectors, plain, whole, empty, not)
		}
	}
}

func TestInSpan(t *testing.T) {
	s := api.Span{Off: 3, Len: 2}
	for sector, want := range map[int]bool{-1: false, 0: false, 2: false, 3: true, 4: true, 5: false, math.MaxInt: false} {
		if got := sample.InSpan(s, sector); got != want {
			t.Errorf("InSpan(%v, %d): %v, want %v", s, sector, got, want)
		}
	}
	if sample.InSpan(api.Span{Off: 3}, 3) || !sample.InSpan(api.Span{Off: 1 << 30, Len: 1 << 30}, 1<<31-1) {
		t.Errorf("InSpan of none, or of the greatest")
	}
}

// Sector by sector for small spans; at the greatest, and of those that are not plain, as it must be.
func TestInBoth(t *testing.T) {
	for _, a := range sample.SmallSpans(6) {
		for _, b := range sample.SmallSpans(6) {
			want := false
			for sector := range 12 {
				want = want || sample.InSpan(a, sector) && sample.InSpan(b, sector)
			}
			if got := sample.InBoth(a, b); got != want {
				t.Errorf("InBoth(%v, %v): %v, want %v", a, b, got, want)
			}
		}
	}
	const most = 1073741824
	all := api.Span{Off: 0, Len: most}
	for s, want := range map[api.Span]bool{{Off: most - 1, Len: 1}: true, {Off: most, Len: 1}: false, {Off: most, Len: most}: false, {Off: most - 1, Len: most}: true} {
		if sample.InBoth(all, s) != want || sample.InBoth(s, all) != want {
			t.Errorf("InBoth of %v and %v: not %v", all, s, want)
		}
	}
	for _, s := range sample.NoSpans() {
		if sample.InBoth(s, all) || sample.InBoth(all, s) || sample.InBoth(s, s) {
			t.Errorf("InBoth of %v, which is not plain: true", s)
		}
	}
}
