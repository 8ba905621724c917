package sched

import (
	"slices"
	"testing"

	"volute/api"
)

// A loop that is left early must not be told more: Go panics if it is. It is left at each place, so at the last of a rest too.
func TestPassEndsEarly(t *testing.T) {
	for n := 1; n <= api.MaxSegs; n++ {
		whole, _ := Order(n)
		for end := range n {
			var told []int
			for place, segment := range pass(n) {
				told = append(told, segment)
				if place == end {
					break
				}
			}
			if !slices.Equal(told, whole[:end+1]) {
				t.Errorf("%d up to %d: %d", n, end, told)
			}
		}
	}
}

func TestPassAnew(t *testing.T) {
	walk := pass(5)
	for range 2 {
		var places, segments []int
		for place, segment := range walk {
			places, segments = append(places, place), append(segments, segment)
		}
		if !slices.Equal(places, []int{0, 1, 2, 3, 4}) || !slices.Equal(segments, []int{0, 4, 2, 1, 3}) {
			t.Error(places, segments)
		}
	}
}
