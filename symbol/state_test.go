package symbol_test

import (
	"math"
	"slices"
	"testing"

	"volute/api"
	"volute/symbol"
)

// noSymbol are numbers that are no symbols, some of them one in their lowest bits.
var noSymbol = []int{-1, -255, -256, 256, 257, 511, 512, 1 << 31, 1 << 32, 1<<32 + 5, 1 << 40, -1 << 32, math.MaxInt, math.MinInt, math.MinInt + 7}

func stateOf(t *testing.T, l ...int) uint32 {
	t.Helper()
	s, e := symbol.State(l)
	if e != api.OK {
		t.Fatal(l, e)
	}
	return s
}

// firstFour are the symbols 0 to 3 of s.
func firstFour(t *testing.T, s uint32) [4]int {
	t.Helper()
	return [4]int{of(t, s, 0), of(t, s, 1), of(t, s, 2), of(t, s, 3)}
}

func TestStateKnown(t *testing.T) { // P6.2: the lowest byte first
	for _, c := range []struct {
		l    [4]int
		want uint32
	}{
		{[4]int{0, 0, 0, 0}, 0},
		{[4]int{1, 2, 3, 4}, 0x04030201},
		{[4]int{255, 0, 0, 0}, 0xff},
		{[4]int{0, 255, 0, 0}, 0xff00},
		{[4]int{0, 0, 255, 0}, 0xff0000},
		{[4]int{0, 0, 0, 255}, 0xff000000},
		{[4]int{255, 255, 255, 255}, math.MaxUint32},
		{[4]int{0, 0, 0, 128}, 0x80000000},
		{[4]int{185, 121, 55, 158}, 0x9e3779b9},
		{[4]int{239, 190, 173, 222}, 0xdeadbeef},
	} {
		if got := stateOf(t, c.l[:]...); got != c.want {
			t.Errorf("%d: %x, not %x", c.l, got, c.want)
		}
	}
}

func TestStateOfSymbols(t *testing.T) { // P6.2, P6.3: where each state comes back from its first four symbols, no two have the same
	for _, s := range states() {
		four := firstFour(t, s)
		if got := stateOf(t, four[:]...); got != s {
			t.Errorf("%x: of its symbols %d comes %x", s, four, got)
		}
	}
}

func TestSymbolsOfState(t *testing.T) { // P6.2: each number at each place, others beside it
	for place := range 4 {
		for x := range 256 {
			four := [4]int{x ^ 255, x * 7 % 256, 255, 0}
			four[place] = x
			if got := firstFour(t, stateOf(t, four[:]...)); got != four {
				t.Errorf("%d: of its state come %d", four, got)
			}
		}
	}
}

func TestStateLength(t *testing.T) { // P6.2, R4: whatever else is wrong, any length but four is told first
	for _, n := range []int{0, 1, 2, 3, 5, 6, 8, 256, 260, 1 << 16} {
		if s, e := symbol.State(make([]int, n)); s != 0 || e != api.ErrLen {
			t.Error(n, s, e)
		}
		for _, x := range noSymbol {
			for _, at := range []int{0, n - 1} {
				l := slices.Repeat([]int{7}, n)
				if n > 0 {
					l[at] = x
				}
				if s, e := symbol.State(l); s != 0 || e != api.ErrLen {
					t.Error(n, at, x, s, e)
				}
			}
		}
	}
	if s, e := symbol.State(nil); s != 0 || e != api.ErrLen {
		t.Error(s, e)
	}
}

func TestStateWrong(t *testing.T) { // P6.2, R1, R4: at each place, and at all of them
	for _, x := range noSymbol {
		for at := range 4 {
			l := []int{1, 255, 0, 9}
			l[at] = x
			if s, e := symbol.State(l); s != 0 || e != api.ErrArg {
				t.Error(l, s, e)
			}
		}
		if s, e := symbol.State([]int{x, x, x, x}); s != 0 || e != api.ErrArg {
			t.Error(x, s, e)
		}
	}
}

func TestUnlikeStates(t *testing.T) { // P6.3
	seen := map[[4]int]uint32{}
	for _, s := range states() {
		four := firstFour(t, s)
		if other, is := seen[four]; is && other != s {
			t.Errorf("%x and %x have the symbols %d", other, s, four)
		}
		seen[four] = s
	}
}

func TestUnlikeNeighbours(t *testing.T) { // P6.3: states that differ in one bit or two
	for _, s := range states() {
		four := firstFour(t, s)
		for k := range 32 {
			for j := range k + 1 {
				other := s ^ 1<<k ^ 1<<j
				if j == k {
					other = s ^ 1<<k
				}
				if firstFour(t, other) == four {
					t.Errorf("%x and %x have the symbols %d", s, other, four)
				}
			}
		}
	}
}

func TestStateAgain(t *testing.T) { // R3: an error or an answer ahead of a call leaves nothing behind
	for range 2 {
		if got := stateOf(t, 1, 2, 3, 4); got != 0x04030201 {
			t.Errorf("%x", got)
		}
		if s, e := symbol.State([]int{255, 255, 255, 256}); s != 0 || e != api.ErrArg {
			t.Error(s, e)
		}
		if s, e := symbol.State([]int{255, 255, 255}); s != 0 || e != api.ErrLen {
			t.Error(s, e)
		}
	}
}
