package rules

import (
	"slices"
	"testing"

	"volute/api"
	"volute/spine"
)

func TestSpine(t *testing.T) {
	const most = api.MaxSegs
	full := slices.Repeat([]int{1, 15, 0, 9}, most/4)
	for _, l := range [][]int{
		{}, {0}, {15}, {0, 15, 7, 7, 1}, {-1}, {16}, {1, 2, 16}, full[:most-1], full,
		append(slices.Clone(full[:most-1]), 16), append(slices.Clone(full), 1), append(slices.Clone(full), 16),
	} {
		checkLists(t, "States", one(spine.States), l)
	}
}

func TestSpineBehindTheLength(t *testing.T) { // no nibbles behind the length, and more of them than may be
	l := slices.Repeat([]int{3, -1, 16, 1 << 40}, api.MaxSegs)
	was := slices.Clone(l)
	states, e := spine.States(l[:1])
	if len(states) != 1 || e != api.OK || !slices.Equal(l, was) {
		t.Error(states, e, l)
	}
	if states, e := spine.States(l[:0]); len(states) != 0 || e != api.OK || !slices.Equal(l, was) {
		t.Error(states, e, l)
	}
}
