package symbol_test

import (
	"math"
	"testing"

	"volute/api"
	"volute/mix"
	"volute/symbol"
)

// noIndex are numbers that are no index, some of them one in their lowest bits.
var noIndex = []int{-1, -4, -255, -256, api.MaxIndex + 1, api.MaxIndex + 2, 260, 512, 1 << 31, 1 << 32, 1<<32 + 3, 1 << 40, -1 << 32, math.MaxInt, math.MinInt, math.MinInt + 7}

// states are 0, the greatest, each with one bit alone or all but one, each of ones alone from either end, each byte with all its values alone, and some without a plan.
func states() []uint32 {
	list := []uint32{0, math.MaxUint32, 0x04030201, 0x01020304, 0x9e3779b9, 0x61c88647, 0x55555555, 0xaaaaaaaa}
	for k := range 32 {
		alone := uint32(1) << k
		list = append(list, alone, ^alone, alone-1, -alone)
	}
	for x := range uint32(256) {
		list = append(list, x, x<<8, x<<16, x<<24, math.MaxUint32-x, x*2654435761)
	}
	return list
}

func of(t *testing.T, s uint32, index int) int {
	t.Helper()
	x, e := symbol.Of(s, index)
	if e != api.OK {
		t.Fatalf("Of(%x, %d): %d", s, index, e)
	}
	return x
}

// byHand is a symbol by the chapter's text, worked out with room for whole products and sums, so that nothing wraps but where the text says modulo.
func byHand(s uint32, index int) int {
	const bound = 1 << 32
	switch index {
	case 0:
		return int(s % 256)
	case 1:
		return int(s / 256 % 256)
	case 2:
		return int(s / 65536 % 256)
	case 3:
		return int(s / 16777216)
	}
	far := uint64(index) * 0x9e3779b9 % bound
	return int(mix.Mix(uint32((uint64(s)+far)%bound)) % 256)
}

func TestOfKnown(t *testing.T) { // P6.1: worked out apart from this project
	indices := []int{0, 1, 2, 3, 4, 5, 6, 127, 128, 254, 255}
	for _, c := range []struct {
		s    uint32
		want [11]int
	}{
		{0, [11]int{0, 0, 0, 0, 87, 249, 71, 225, 37, 194, 202}},
		{1, [11]int{1, 0, 0, 0, 203, 207, 90, 116, 117, 208, 79}},
		{0x04030201, [11]int{1, 2, 3, 4, 69, 250, 98, 35, 189, 39, 255}}, // example 1
		{0x80000000, [11]int{0, 0, 0, 128, 36, 212, 131, 78, 0, 165, 151}},
		{math.MaxUint32, [11]int{255, 255, 255, 255, 54, 19, 122, 244, 59, 240, 161}},
		{0x9e3779b9, [11]int{185, 121, 55, 158, 249, 71, 226, 37, 232, 202, 92}},
		{0x61c88647, [11]int{71, 134, 200, 97, 189, 87, 249, 29, 225, 176, 194}},
		{0xdeadbeef, [11]int{239, 190, 173, 222, 141, 250, 254, 137, 94, 182, 86}},
	} {
		for i, index := range indices {
			if got := of(t, c.s, index); got != c.want[i] {
				t.Errorf("Of(%x, %d) = %d, not %d", c.s, index, got, c.want[i])
			}
		}
	}
}

func TestOf(t *testing.T) { // P6.1: each index that may be
	for _, s := range states() {
		for index := range api.MaxIndex + 1 {
			if got := of(t, s, index); got != byHand(s, index) {
				t.Errorf("Of(%x, %d) = %d, not %d", s, index, got, byHand(s, index))
			}
		}
	}
}

func TestOfWrong(t *testing.T) { // P6.1, R1, R4
	for _, s := range states() {
		for _, index := range noIndex {
			if x, e := symbol.Of(s, index); x != 0 || e != api.ErrArg {
				t.Errorf("Of(%x, %d) = %d, %d", s, index, x, e)
			}
		}
	}
}

func TestOfAgain(t *testing.T) { // R3: an answer hangs neither on what was asked ahead of it nor on how often
	list := states()
	ahead := make([]int, len(list))
	for i, s := range list {
		ahead[i] = of(t, s, i%256)
	}
	for i := len(list) - 1; i >= 0; i-- {
		if of(t, list[i], i%256) != ahead[i] || of(t, list[i], i%256) != ahead[i] {
			t.Errorf("%x, %d: another answer than ahead of it", list[i], i%256)
		}
	}
}
