package rules

import (
	"math"
	"slices"
	"testing"

	"volute/api"
	"volute/code"
)

func TestCode(t *testing.T) {
	const most = api.MaxSegs / 2 // bytes of a block
	parts := [][2]int{{0, 0}, {0, 1}, {3, 5}, {0, 32}, {31, 1}, {32, 0}, {32, 1}, {0, 1024}, {1000, 24}, {1024, 0}, {1024, 1}, {-1, 1}, {1, -1}, {math.MaxInt, 1}}
	for _, part := range parts {
		encode := func(b []byte) ([]byte, api.Errno) { return code.Encode(b, part[0], part[1]) }
		for _, b := range [][]byte{{}, {0}, {0xa5}, {1, 2, 3}, fill(most - 1), fill(most), fill(most + 1)} {
			checkLists(t, "Encode", one(encode), b)
		}
	}
}

func TestCodeBehindTheLength(t *testing.T) { // more bytes in memory than a block may have: those within the length alone are the block
	const most = api.MaxSegs / 2
	b := fill(2 * most)
	was := slices.Clone(b)
	for n := 1; n <= most; n++ {
		got, e := code.Encode(b[:n], 0, 32*n)
		want, f := code.Encode(slices.Clone(was[:n]), 0, 32*n)
		if !slices.Equal(got, want) || len(got) != 32*n || e != api.OK || f != api.OK || !slices.Equal(b, was) {
			t.Error(n, got, e, b)
		}
	}
	if got, e := code.Encode(b[:0], 0, 0); len(got) != 0 || e != api.ErrLen || !slices.Equal(b, was) {
		t.Error(got, e, b)
	}
}
