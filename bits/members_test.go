package bits

import (
	"slices"
	"testing"
)

// What tells a set's numbers may be left at any time, gone over again, and nested.
func TestR3MembersLeftAgainAndNested(t *testing.T) {
	all := members(Of([]int{0, 5, 63}))
	var told []int
	for n := range all {
		told = append(told, n)
		for m := range all {
			told = append(told, m)
			if m == 5 {
				break
			}
		}
	}
	if want := []int{0, 0, 5, 5, 0, 5, 63, 0, 5}; !slices.Equal(told, want) {
		t.Errorf("told %v, want %v", told, want)
	}
	for n := range members(0) {
		t.Errorf("the empty set tells %d", n)
	}
}
