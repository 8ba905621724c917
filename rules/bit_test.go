package rules

import (
	"slices"
	"testing"

	"volute/api"
	"volute/bit"
)

// fill is a text of n bytes in which no short row comes again soon.
func fill(n int) []byte {
	b := make([]byte, n)
	for i := range b {
		b[i] = byte(i*151 + i>>8*37 + 11)
	}
	return b
}

func TestBit(t *testing.T) {
	put := func(b []byte) ([]byte, api.Errno) { return bit.Put(b, 0x0102, 2) }
	get := func(b []byte) ([]int, api.Errno) {
		n, e := bit.Get(b, 1, 3)
		if e != api.OK {
			return nil, e
		}
		return []int{n}, e
	}
	texts := [][]byte{{}, {7}, {9, 8}, {1, 2, 3}, {1, 2, 3, 4, 5}, fill(100), fill(api.MaxBytes), fill(api.MaxBytes + 1)}
	for _, b := range texts {
		checkLists(t, "Bits", one(bit.Bits), b)
		checkLists(t, "Nibbles", one(bit.Nibbles), b)
		checkLists(t, "Put", one(put), b)
		checkLists(t, "Get", one(get), b)
		for _, mask := range texts {
			checkLists(t, "Turn", two(bit.Turn), b, mask)
		}
	}
	for _, l := range [][]int{{}, {1}, {1, 0}, {1, 0, 1, 0, 0, 1, 0, 1}, {0, 0, 0, 0, 0, 0, 0, 16}, make([]int, api.MaxBits), make([]int, api.MaxBits+8)} {
		checkLists(t, "Pack", one(bit.Pack), l)
		checkLists(t, "Join", one(bit.Join), l)
	}
}

func TestBitOneListTwice(t *testing.T) { // text and mask may be one list
	b := []byte{1, 2, 3}
	got, e := bit.Turn(b, b)
	if !slices.Equal(got, []byte{0, 0, 0}) || e != api.OK || !slices.Equal(b, []byte{1, 2, 3}) {
		t.Error(got, e, b)
	}
}
