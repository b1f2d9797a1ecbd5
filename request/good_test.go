package request_test

import (
	"math"
	"slices"
	"testing"

	"twain/api"
	"twain/request"
	"twain/sample"
)

func TestP28_1SettingsThatMayBe(t *testing.T) {
	for _, c := range sample.Settings() {
		if !request.Good(c) {
			t.Errorf("Good(%+v): false", c)
		}
	}
}

func TestP28_1NoSettings(t *testing.T) {
	if request.Good(api.Config{}) {
		t.Errorf("Good of the zero Config: true")
	}
}

// Each setting goes through all numbers around what it may be, and both ends of an int, while the others are as they may be.
func TestP28_1EachSetting(t *testing.T) {
	tried := slices.Concat(sample.Ends(), sample.Tickets(), sample.NoTickets())
	for n := -300; n <= 600; n++ {
		tried = append(tried, n)
	}
	for _, s := range settings() {
		may := s.may()
		for _, c := range sample.Settings() {
			for _, n := range tried {
				if got, want := request.Good(s.with(c, n)), slices.Contains(may, n); got != want {
					t.Errorf("Good of %s %d in %+v: %v, want %v", s.name, n, c, got, want)
				}
			}
		}
	}
}

// The limits by the numbers that the chapter and package api name.
func TestP28_1Limits(t *testing.T) {
	for _, c := range []struct {
		name        string
		below, may  []int
		behindLimit []int
	}{
		{"Sectors", []int{math.MinInt, -256, -4, -1, 0, 1, 2, 3}, []int{4, 8, 12, 128, 252, 256}, []int{257, 258, 260, 512, 1 << 32, math.MaxInt - 3, math.MaxInt}},
		{"Hot", []int{math.MinInt, -3, 0, 1, 2}, []int{3, 4, 15, 16}, []int{17, 64, 1<<32 + 3, math.MaxInt}},
		{"Table", []int{math.MinInt, -1, 0}, []int{1, 2, 15, 16}, []int{17, 64, 1<<32 + 1, math.MaxInt}},
		{"Window", []int{math.MinInt, -1, 0}, []int{1, 2, 63, 64}, []int{65, 100, 1<<32 + 1, math.MaxInt}},
		{"Patience", []int{math.MinInt, -2, -1, 0, 1}, []int{2, 3, 99, 100}, []int{101, 200, 1<<32 + 2, math.MaxInt}},
	} {
		s := settings()[slices.IndexFunc(settings(), func(s setting) bool { return s.name == c.name })]
		for _, base := range sample.Settings() {
			for _, n := range c.may {
				if !request.Good(s.with(base, n)) {
					t.Errorf("Good of %s %d in %+v: false", c.name, n, base)
				}
			}
			for _, n := range slices.Concat(c.below, c.behindLimit) {
				if request.Good(s.with(base, n)) {
					t.Errorf("Good of %s %d in %+v: true", c.name, n, base)
				}
			}
		}
	}
}

func TestP28_1SectorsThatAreNoMultiple(t *testing.T) {
	for _, n := range []int{5, 6, 7, 9, 10, 11, 15, 17, 126, 127, 129, 253, 254, 255} {
		if c := of(n); request.Good(c) {
			t.Errorf("Good(%+v): true", c)
		}
	}
}

// edges: the setting just below, at and just above both of its limits, and 0.
func (s setting) edges() []int {
	return []int{0, s.least - 1, s.least, s.least + s.step, s.most - s.step, s.most, s.most + 1}
}

// With several settings that may not be, it is not Good either: no wrong one makes up for another.
func TestP28_1AllTogether(t *testing.T) {
	var cross func(c api.Config, left []setting, good bool)
	cross = func(c api.Config, left []setting, good bool) {
		if len(left) == 0 {
			if got := request.Good(c); got != good {
				t.Errorf("Good(%+v): %v, want %v", c, got, good)
			}
			return
		}
		s := left[0]
		for _, n := range s.edges() {
			cross(s.with(c, n), left[1:], good && slices.Contains(s.may(), n))
		}
	}
	cross(api.Config{}, settings(), true)
}

// A limit belongs to its own setting: what one may be, another one may not.
func TestP28_1SettingsInAnotherOnesPlace(t *testing.T) {
	for _, c := range []api.Config{
		{Sectors: 3, Hot: 16, Table: 4, Window: 4, Patience: 3},
		{Sectors: 16, Hot: 1, Table: 3, Window: 4, Patience: 3},
		{Sectors: 16, Hot: 3, Table: 64, Window: 16, Patience: 3},
		{Sectors: 16, Hot: 3, Table: 4, Window: 100, Patience: 64},
		{Sectors: 100, Hot: 3, Table: 4, Window: 4, Patience: 256},
		{Sectors: 16, Hot: 64, Table: 16, Window: 16, Patience: 16},
		{Sectors: 16, Hot: 16, Table: 16, Window: 16, Patience: 1},
	} {
		if request.Good(c) {
			t.Errorf("Good(%+v): true", c)
		}
	}
}
