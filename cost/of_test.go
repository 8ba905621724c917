package cost_test

import (
	"math"
	"slices"
	"testing"

	"volute/api"
	"volute/bit"
	"volute/cost"
	"volute/symbol"
)

// eachBit is what a symbol costs of which each bit is turned.
const eachBit = 8

// states are 0, 1, the greatest, each with one bit alone or all but one, and some without a plan.
func states() []uint32 {
	list := []uint32{0, 1, math.MaxUint32, math.MaxUint32 - 1, 0x04030201, 0x9e3779b9, 0x61c88647, 0xdeadbeef, 0x55555555, 0xaaaaaaaa}
	for k := range 32 {
		list = append(list, 1<<k, ^(uint32(1) << k), uint32(k)*2654435761+7)
	}
	return list
}

// lengths are those of lists that may be.
func lengths() []int {
	list := make([]int, api.MaxPasses+1)
	for n := range list {
		list[n] = n
	}
	return list
}

func own(t *testing.T, s uint32, at int) int {
	t.Helper()
	x, e := symbol.Of(s, at)
	if e != api.OK {
		t.Fatalf("symbol.Of(%x, %d): %d", s, at, e)
	}
	return x
}

// turned are n symbols of s, from the index first on, step apart, round by round; the bits of masks are turned in them, one after the other.
func turned(t *testing.T, s uint32, n, first, step int, masks ...int) []api.Sym {
	t.Helper()
	l := make([]api.Sym, n)
	for i := range l {
		at := (first + i*step) % (api.MaxIndex + 1)
		l[i] = api.Sym{At: at, Value: own(t, s, at) ^ masks[i%len(masks)]}
	}
	return l
}

func wantCost(t *testing.T, s uint32, l []api.Sym, want int) {
	t.Helper()
	if got, e := cost.Of(s, l); got != want || e != api.OK {
		t.Errorf("Of(%x, %v) = %d, %d, not %d", s, l, got, e, want)
	}
}

func wantError(t *testing.T, s uint32, l []api.Sym, want api.Errno) {
	t.Helper()
	if got, e := cost.Of(s, l); got != 0 || e != want {
		t.Errorf("Of(%x, %v) = %d, %d, not %d", s, l, got, e, want)
	}
}

func TestOfKnown(t *testing.T) { // P10.1: worked out by hand from symbols that were worked out apart from this project
	for _, c := range []struct {
		s    uint32
		l    []api.Sym
		want int
	}{
		{0, []api.Sym{{At: 0, Value: 0}}, 0},
		{0, []api.Sym{{At: 3, Value: 255}}, 8},
		{0, []api.Sym{{At: 0, Value: 1}, {At: 1, Value: 3}, {At: 2, Value: 7}, {At: 3, Value: 128}}, 7},
		{0, []api.Sym{{At: 4, Value: 87}, {At: 5, Value: 249}, {At: 255, Value: 202}}, 0},
		{0, []api.Sym{{At: 4, Value: 0}, {At: 5, Value: 0}, {At: 255, Value: 0}}, 15}, // 57, f9, ca
		{1, []api.Sym{{At: 0, Value: 0}, {At: 1, Value: 1}}, 2},
		{1, []api.Sym{{At: 4, Value: 52}, {At: 254, Value: 209}}, 9}, // cb and 34, d0 and d1
		{0x04030201, []api.Sym{{At: 0, Value: 1}, {At: 1, Value: 2}, {At: 2, Value: 3}, {At: 3, Value: 4}}, 0},
		{0x04030201, []api.Sym{{At: 0, Value: 4}, {At: 1, Value: 3}, {At: 2, Value: 2}, {At: 3, Value: 1}}, 6},
		{0x04030201, []api.Sym{{At: 4, Value: 85}, {At: 5, Value: 255}, {At: 255, Value: 0}}, 11}, // 45 and 55, fa and ff, ff and 0
		{math.MaxUint32, []api.Sym{{At: 0, Value: 0}, {At: 1, Value: 255}, {At: 2, Value: 254}, {At: 3, Value: 127}}, 10},
		{math.MaxUint32, []api.Sym{{At: 255, Value: 160}, {At: 4, Value: 201}}, 9}, // a1 and a0, 36 and c9
		{0xdeadbeef, []api.Sym{{At: 3, Value: 222}, {At: 2, Value: 173}, {At: 1, Value: 190}, {At: 0, Value: 239}}, 0},
	} {
		wantCost(t, c.s, c.l, c.want)
	}
}

func TestOfNothing(t *testing.T) { // P10.1, R2: example 1
	for _, s := range states() {
		for _, l := range [][]api.Sym{nil, {}, make([]api.Sym, 0, 20), make([]api.Sym, 20)[:0]} {
			wantCost(t, s, l, 0)
		}
	}
}

func TestOfOneSymbol(t *testing.T) { // P10.1, P10.2: each index, and each value at some of them
	for _, s := range states() {
		for at := range api.MaxIndex + 1 {
			x := own(t, s, at)
			for _, value := range []int{0, x, x ^ 1, x ^ 128, x ^ 255, 255} {
				wantCost(t, s, []api.Sym{{At: at, Value: value}}, bit.Ones(x^value))
			}
		}
		for _, at := range []int{0, 3, 4, api.MaxIndex} {
			x := own(t, s, at)
			for value := range 256 {
				got, e := cost.Of(s, []api.Sym{{At: at, Value: value}})
				if got != bit.Ones(x^value) || got < 0 || got > eachBit || (got == 0) != (value == x) || e != api.OK {
					t.Errorf("Of(%x, %d of the index %d) = %d, %d", s, value, at, got, e)
				}
			}
		}
	}
}

func TestOfSum(t *testing.T) { // P10.1: unlike symbols, unlike masks, lists of each length that may be
	masks := []int{1, 0, 255, 6, 128, 0, 127, 37, 74, 111, 148, 185, 222, 3, 240, 85, 170}
	for _, s := range states() {
		for _, n := range lengths() {
			for _, step := range []int{0, 1, 5, 17, 255} {
				l := turned(t, s, n, n, step, masks...)
				want := 0
				for _, x := range l {
					want += bit.Ones(own(t, s, x.At) ^ x.Value)
				}
				wantCost(t, s, l, want)
			}
		}
	}
}

func TestOfSumIsOfItsParts(t *testing.T) { // P10.1: a list costs what its two parts cost, wherever it is parted
	for _, s := range states() {
		l := turned(t, s, api.MaxPasses, 250, 3, 9, 0, 255, 64, 31)
		all, e := cost.Of(s, l)
		for n := range l {
			ahead, f := cost.Of(s, l[:n])
			behind, g := cost.Of(s, l[n:])
			if ahead+behind != all || e != api.OK || f != api.OK || g != api.OK {
				t.Errorf("%x, %d: %d and %d, not %d", s, n, ahead, behind, all)
			}
		}
	}
}

func TestOfPlaces(t *testing.T) { // P10.1: places twice, falling, and in any order: each symbol counts
	for _, s := range states() {
		x, y := own(t, s, 2), own(t, s, 200)
		wantCost(t, s, []api.Sym{{At: 2, Value: x}, {At: 2, Value: x ^ 255}}, 8)
		wantCost(t, s, []api.Sym{{At: 2, Value: x ^ 1}, {At: 2, Value: x ^ 1}}, 2)
		wantCost(t, s, []api.Sym{{At: 2, Value: x ^ 3}, {At: 2, Value: x}, {At: 2, Value: x ^ 7}}, 5)
		wantCost(t, s, []api.Sym{{At: 200, Value: y ^ 15}, {At: 2, Value: x ^ 1}, {At: 200, Value: y ^ 240}}, 9)
		wantCost(t, s, slices.Repeat([]api.Sym{{At: 200, Value: y ^ 255}}, api.MaxPasses), eachBit*api.MaxPasses)
		wantCost(t, s, slices.Repeat([]api.Sym{{At: 2, Value: x}}, api.MaxPasses), 0)
		l := turned(t, s, api.MaxPasses, 0, 17, 1, 0, 255, 6, 128)
		rising, e := cost.Of(s, l)
		if e != api.OK {
			t.Fatal(s, e)
		}
		slices.Reverse(l)
		wantCost(t, s, l, rising)
		for i := range l {
			l[i], l[i*7%16] = l[i*7%16], l[i]
		}
		wantCost(t, s, l, rising)
	}
}

func TestOfLength(t *testing.T) { // P10.1, R4: more than MaxPasses, whatever else is wrong
	for _, s := range states() {
		wantCost(t, s, turned(t, s, 1, 9, 1, 0), 0)
		wantCost(t, s, turned(t, s, api.MaxPasses, 9, 1, 0), 0)
		for _, n := range []int{api.MaxPasses + 1, api.MaxPasses + 2, 32, 255, 256, 257, 272} {
			l := turned(t, s, n, 9, 1, 0)
			wantError(t, s, l, api.ErrLen)
			for _, wrong := range noSymbol() {
				for _, at := range []int{0, 3, api.MaxPasses - 1, api.MaxPasses, n - 1} {
					other := slices.Clone(l)
					other[at] = wrong
					wantError(t, s, other, api.ErrLen)
				}
			}
		}
	}
	wantError(t, 1, make([]api.Sym, 1<<16), api.ErrLen)
	wantError(t, 1, slices.Repeat([]api.Sym{{At: -1, Value: 256}}, 1<<16), api.ErrLen)
}
