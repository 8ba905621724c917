package sched_test

import (
	"math"
	"testing"

	"volute/api"
	"volute/sched"
)

// symbol is one of a row that is sent: whose it is.
type symbol struct{ segment, index int }

func at(t *testing.T, n, k int) symbol {
	t.Helper()
	segment, index, e := sched.At(n, k)
	if e != api.OK {
		t.Fatalf("At(%d, %d): %d", n, k, e)
	}
	return symbol{segment, index}
}

func place(t *testing.T, n int, s symbol) int {
	t.Helper()
	k, e := sched.Place(n, s.segment, s.index)
	if e != api.OK {
		t.Fatalf("Place(%d, %d, %d): %d", n, s.segment, s.index, e)
	}
	return k
}

func wantNoPlace(t *testing.T, n, segment, index int) {
	t.Helper()
	if k, e := sched.Place(n, segment, index); k != 0 || e != api.ErrArg {
		t.Errorf("Place(%d, %d, %d) = %d, %d", n, segment, index, k, e)
	}
}

func wantNoSymbol(t *testing.T, n, k int) {
	t.Helper()
	if segment, index, e := sched.At(n, k); segment != 0 || index != 0 || e != api.ErrArg {
		t.Errorf("At(%d, %d) = %d, %d, %d", n, k, segment, index, e)
	}
}

func TestPlacesKnown(t *testing.T) { // P7.1: worked out apart from this project
	for _, c := range []struct {
		n, k int
		want symbol
	}{
		{1, 0, symbol{0, 0}}, {1, 1, symbol{0, 1}}, {1, 15, symbol{0, 15}},
		{5, 0, symbol{0, 0}}, {5, 1, symbol{4, 0}}, {5, 4, symbol{3, 0}}, {5, 5, symbol{0, 1}}, {5, 6, symbol{4, 1}}, {5, 79, symbol{3, 15}},
		{7, 6, symbol{3, 0}}, {7, 7, symbol{0, 1}}, {7, 111, symbol{3, 15}},
		{8, 7, symbol{7, 0}}, {8, 8, symbol{0, 1}}, {8, 127, symbol{7, 15}},
		{9, 1, symbol{8, 0}}, {9, 8, symbol{7, 0}}, {9, 9, symbol{0, 1}}, {9, 143, symbol{7, 15}},
		{20, 2, symbol{16, 0}}, {20, 43, symbol{4, 2}},
		{63, 62, symbol{55, 0}}, {63, 63, symbol{0, 1}}, {63, 1007, symbol{55, 15}},
		{64, 1, symbol{8, 0}}, {64, 63, symbol{63, 0}}, {64, 64, symbol{0, 1}}, {64, 500, symbol{35, 7}}, {64, 1023, symbol{63, 15}},
	} {
		if got := at(t, c.n, c.k); got != c.want {
			t.Errorf("At(%d, %d) = %d, not %d", c.n, c.k, got, c.want)
		}
		if got := place(t, c.n, c.want); got != c.k {
			t.Errorf("Place(%d, %d) = %d, not %d", c.n, c.want, got, c.k)
		}
	}
}

func TestEachSymbolHasItsPlace(t *testing.T) { // P7.1, P7.2: each symbol has a place by the chapter's text, and at that place it stands
	for n := 1; n <= api.MaxSegs; n++ {
		for segment := range n {
			for index := range api.MaxPasses {
				s := symbol{segment, index}
				k := place(t, n, s)
				if k != placeByHand(n, segment, index) {
					t.Errorf("Place(%d, %d) = %d, not %d", n, s, k, placeByHand(n, segment, index))
				}
				if got := at(t, n, k); got != s {
					t.Errorf("of %d: at the place %d of %d stands %d", n, k, s, got)
				}
			}
		}
	}
}

func TestEachPlaceHasItsSymbol(t *testing.T) { // P7.1, P7.2: each place has a symbol, none has another's, and the passes follow one another
	for n := 1; n <= api.MaxSegs; n++ {
		pass := order(t, n)
		seen := map[symbol]int{}
		for k := range n * api.MaxPasses {
			s := at(t, n, k)
			if want := (symbol{pass[k%n], k / n}); s != want {
				t.Errorf("At(%d, %d) = %d, not %d", n, k, s, want)
			}
			if other, is := seen[s]; is {
				t.Errorf("of %d: %d stands at %d and at %d", n, s, other, k)
			}
			seen[s] = k
			if got := place(t, n, s); got != k {
				t.Errorf("of %d: the place of %d at %d is %d", n, s, k, got)
			}
		}
	}
}

func TestAtWrong(t *testing.T) { // P7.1, R1, R4: places just outside of each row, and far ones
	for n := 1; n <= api.MaxSegs; n++ {
		end := n * api.MaxPasses
		for _, k := range []int{-1, -n, -end, end, end + 1, end + n, 2 * end, 1 << 32, 1<<32 + 1, 1 << 62, -1 << 32, math.MaxInt, math.MinInt, math.MinInt + 1} {
			wantNoSymbol(t, n, k)
		}
	}
	for _, n := range noCount {
		for _, k := range []int{0, 1, 4, 15, -1, 80, 1023, 1024, n, -n, math.MaxInt, math.MinInt} {
			wantNoSymbol(t, n, k)
		}
	}
}

func TestPlaceWrong(t *testing.T) { // P7.1, R1, R4: each of the three wrong alone, and beside the others
	noIndex := []int{-1, -16, api.MaxPasses, api.MaxPasses + 1, 32, api.MaxIndex, 1 << 32, 1<<32 + 3, math.MaxInt, math.MinInt}
	for n := 1; n <= api.MaxSegs; n++ {
		noSegment := []int{-1, -8, -n, n, n + 1, n + 8, 2 * n, 1 << 32, 1<<32 + 1, math.MaxInt, math.MinInt}
		for _, segment := range noSegment {
			wantNoPlace(t, n, segment, 0)
			wantNoPlace(t, n, segment, api.MaxPasses-1)
		}
		for _, index := range noIndex {
			wantNoPlace(t, n, 0, index)
			wantNoPlace(t, n, n-1, index)
			for _, segment := range noSegment {
				wantNoPlace(t, n, segment, index)
			}
		}
	}
	for _, n := range noCount {
		for _, segment := range []int{0, 1, -1, n - 1, n, math.MaxInt, math.MinInt} {
			for _, index := range []int{0, 1, api.MaxPasses - 1, api.MaxPasses, -1, math.MaxInt, math.MinInt} {
				wantNoPlace(t, n, segment, index)
			}
		}
	}
}

func TestPlacesAgain(t *testing.T) { // R3: an answer hangs neither on what was asked ahead of it nor on how often
	ahead := map[[2]int]symbol{}
	for n := 1; n <= api.MaxSegs; n++ {
		for k := range n * api.MaxPasses {
			ahead[[2]int{n, k}] = at(t, n, k)
		}
	}
	for n := api.MaxSegs; n >= 1; n-- {
		wantNoSymbol(t, n, -1)
		wantNoPlace(t, n, n, 0)
		for k := n*api.MaxPasses - 1; k >= 0; k-- {
			s := ahead[[2]int{n, k}]
			if at(t, n, k) != s || at(t, n, k) != s || place(t, n, s) != k || place(t, n, s) != k {
				t.Errorf("%d, %d: another answer than ahead of it", n, k)
			}
		}
	}
}
