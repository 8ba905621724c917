package code_test

import (
	"math"
	"testing"

	"volute/api"
	"volute/bit"
	"volute/code"
)

func TestSegsKnown(t *testing.T) { // P8.1
	for bytes, want := range map[int]int{0: 0, 1: 2, 2: 4, 3: 6, 16: 32, 31: 62, 32: 64} {
		if got := code.Segs(bytes); got != want {
			t.Errorf("Segs(%d) = %d, not %d", bytes, got, want)
		}
	}
}

func TestSegsAreNibbles(t *testing.T) { // P8.1: a block's segments are its nibbles
	for bytes := range most + 1 {
		l, e := bit.Nibbles(make([]byte, bytes))
		if got := code.Segs(bytes); got != len(l) || e != api.OK {
			t.Errorf("Segs(%d) = %d, of %d nibbles, %d", bytes, got, len(l), e)
		}
	}
}

func TestSegsNone(t *testing.T) { // P8.1, R1, R5: numbers outside, some of them one that may be in their lowest bits, some whose double wraps
	for _, bytes := range []int{
		-1, -2, -16, -32, -33, most + 1, most + 2, api.MaxSegs, api.MaxSegs + 1, 256, 257, api.MaxBytes,
		1 << 31, 1<<31 + 1, 1 << 32, 1<<32 + 5, -1 << 32, 1<<32 - 1, 1 << 62, 1<<62 + 1, -1 << 62, 1 - 1<<62,
		math.MaxInt, math.MaxInt - 1, math.MinInt, math.MinInt + 1, math.MinInt + 16,
	} {
		if got := code.Segs(bytes); got != 0 {
			t.Errorf("Segs(%d) = %d", bytes, got)
		}
	}
}
