package role_test

import (
	"slices"
	"testing"

	"twain/role"
	"twain/sample"
)

// met is what two nodes were when they met: was it, was the other one, Connected?
type met struct{ mine, theirs bool }

// mets: all that they can have been.
func mets() []met {
	return []met{{false, false}, {false, true}, {true, false}, {true, true}}
}

func TestP26_1Arbiter(t *testing.T) {
	if !role.Arbiter(0) {
		t.Errorf("Arbiter(0): false")
	}
	if role.Arbiter(1) {
		t.Errorf("Arbiter(1): true")
	}
}

func TestP26_1NoOtherOneIsTheArbiter(t *testing.T) {
	for _, who := range sample.NoNodes() {
		if role.Arbiter(who) {
			t.Errorf("Arbiter(%d): true", who)
		}
	}
}

func TestP26_1SourceExample(t *testing.T) {
	if !role.Source(1, true, false) {
		t.Errorf("Source(1, true, false): no")
	}
	if role.Source(1, false, false) {
		t.Errorf("Source(1, false, false): yes")
	}
}

func TestP26_1Source(t *testing.T) {
	for _, c := range []struct {
		who          int
		mine, theirs bool
		want         bool
	}{
		// Both crashed, or the link was cut: the arbiter.
		{0, false, false, true},
		{1, false, false, false},
		{0, true, true, true},
		{1, true, true, false},
		// One of them was Connected, alone: that one, be it the arbiter or not.
		{0, true, false, true},
		{1, true, false, true},
		{0, false, true, false},
		{1, false, true, false},
	} {
		if got := role.Source(c.who, c.mine, c.theirs); got != c.want {
			t.Errorf("Source(%d, %v, %v): %v, want %v", c.who, c.mine, c.theirs, got, c.want)
		}
	}
}

// The chapter tells of no error here, so its words are taken as they stand: who alone was Connected gives, whatever its number; else the arbiter does, and that is none of these.
func TestP26_1SourceOfANodeThatIsNone(t *testing.T) {
	for _, who := range sample.NoNodes() {
		for _, m := range mets() {
			want := m == met{mine: true}
			if got := role.Source(who, m.mine, m.theirs); got != want {
				t.Errorf("Source(%d, %v, %v): %v, want %v", who, m.mine, m.theirs, got, want)
			}
		}
	}
}

// Nothing is kept from call to call: whatever was asked ahead, the answer is the same.
func TestR4SourceWhateverWasAskedAhead(t *testing.T) {
	ask := func() []bool {
		var all []bool
		for _, who := range append(sample.NoNodes(), 0, 1) {
			for _, m := range mets() {
				all = append(all, role.Source(who, m.mine, m.theirs), role.Arbiter(who))
			}
		}
		return all
	}
	if first, second := ask(), ask(); !slices.Equal(first, second) {
		t.Errorf("asked twice: %v, then %v", first, second)
	}
}

// Each of the two asks with what it was itself, and what the other one was.
func TestP26_2JustOneGives(t *testing.T) {
	for _, m := range mets() {
		zero, one := role.Source(0, m.mine, m.theirs), role.Source(1, m.theirs, m.mine)
		if zero == one {
			t.Errorf("node 0 was %v, node 1 was %v: both are told %v", m.mine, m.theirs, zero)
		}
	}
}

// The one that gives was Connected, if one of them was: what was completed is not lost.
func TestP26_2WhoGivesWasConnected(t *testing.T) {
	for _, m := range mets() {
		gave := m.theirs
		if role.Source(0, m.mine, m.theirs) {
			gave = m.mine
		}
		if gave != (m.mine || m.theirs) {
			t.Errorf("node 0 was %v, node 1 was %v: the one that gives was %v", m.mine, m.theirs, gave)
		}
	}
}
