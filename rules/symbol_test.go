package rules

import (
	"slices"
	"testing"

	"volute/api"
	"volute/symbol"
)

func state(l []int) (int, api.Errno) {
	s, e := symbol.State(l)
	return int(s), e
}

func TestSymbol(t *testing.T) {
	for _, l := range [][]int{
		{}, {1}, {1, 2, 3}, {0, 0, 0, 0}, {1, 2, 3, 4}, {255, 255, 255, 255}, {1, 2, 3, 4, 5},
		{-1, 2, 3, 4}, {1, 2, 3, 256}, {1, 2, 256}, {-1, 2, 3, 4, 5},
	} {
		checkLists(t, "State", number(state), l)
	}
}

func TestSymbolBehindTheLength(t *testing.T) { // four symbols in memory, not all of them within the length; and no symbols behind it
	l := []int{1, 2, 3, 4, -1, 256}
	was := slices.Clone(l)
	for n := range len(l) + 1 {
		s, e := symbol.State(l[:n])
		if n == 4 {
			if s != 0x04030201 || e != api.OK {
				t.Errorf("%x, %d", s, e)
			}
		} else if s != 0 || e != api.ErrLen {
			t.Errorf("%d: %x, %d", n, s, e)
		}
		if !slices.Equal(l, was) {
			t.Error(n, l)
		}
	}
}
