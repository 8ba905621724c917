package crc_test

import (
	"math/bits"
	"slices"
	"testing"

	"volute/api"
	"volute/crc"
	"volute/gf2"
)

// poly is the polynomial whose coefficients are the bits of n, trimmed.
func poly(n uint64) []int {
	row := []int{}
	for k := bits.Len64(n) - 1; k >= 0; k-- {
		row = append(row, int(n>>k&1))
	}
	return row
}

// number is the number whose bits are the row's coefficients.
func number(row []int) int {
	n := 0
	for _, x := range row {
		n = n<<1 | x
	}
	return n
}

// rest is the row's rest modulo m. It is taken piece by piece: with a sum's noughts behind them the longest texts have more bits than Div takes.
func rest(t *testing.T, row, m []int) []int {
	t.Helper()
	left := []int{}
	for piece := range slices.Chunk(row, 1<<12) {
		_, r, e := gf2.Div(slices.Concat(left, piece), m)
		if e != api.OK {
			t.Fatal(e)
		}
		left = r
	}
	return left
}

// dividend is a text's row of bits as a sum divides it: width noughts behind it, and then its first width bits turned about, which is what a register that begins with ones does.
func dividend(row []int, width int) []int {
	out := append(slices.Clone(row), make([]int, width)...)
	for i := range width {
		out[i] ^= 1
	}
	return out
}

// lowestFirst is a text's row of bits in the order in which Sum32 takes them.
func lowestFirst(b []byte) []int {
	row := make([]int, 0, 8*len(b))
	for _, x := range b {
		for k := range 8 {
			row = append(row, int(x>>k&1))
		}
	}
	return row
}

// ieee is the polynomial of Sum32, with its highest coefficient.
const ieee = 0x104c11db7

func TestSum32IsRest(t *testing.T) { // P3.3
	check := func(b []byte) {
		left := number(rest(t, dividend(lowestFirst(b), 32), poly(ieee)))
		// The register keeps the highest coefficient lowest, and its bits are turned about at the end.
		want := int(^bits.Reverse32(uint32(left)))
		if sum, e := crc.Sum32(b); sum != want || e != api.OK {
			t.Fatalf("%d bytes: %x for %x, %d", len(b), sum, want, e)
		}
	}
	check([]byte("123456789"))
	for i := range 1 << 8 {
		check([]byte{byte(i)})
	}
	for n := range 100 {
		check(fill(n))
		check(make([]byte, n))
	}
	for _, n := range lengths {
		check(fill(n))
	}
}

func TestSealedIsRest(t *testing.T) { // P3.3: of all sealed texts the rest is the same
	ones := slices.Repeat([]int{1}, 32)
	for _, n := range lengths {
		b, e := crc.Seal(fill(n))
		if e != api.OK {
			continue
		}
		row := lowestFirst(b)
		for i := range ones {
			row[i] ^= 1
		}
		if left := rest(t, row, poly(ieee)); !slices.Equal(left, ones) {
			t.Error(n, left)
		}
	}
}
