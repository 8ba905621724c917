package crc_test

import (
	"bytes"
	"math/bits"
	"testing"

	"volute/api"
	"volute/crc"
)

// sideBySide is how many bits side by side may be turned about without a text staying sealed.
const sideBySide = 32

// turned is b with the bits turned about that are 1 in pattern: its lowest stands for the bit at, in the order in which Sum32 takes them.
func turned(b []byte, at int, pattern uint64) []byte {
	out := bytes.Clone(b)
	for ; pattern != 0; pattern &= pattern - 1 {
		place := at + bits.TrailingZeros64(pattern)
		out[place/8] ^= 1 << (place % 8)
	}
	return out
}

func seal(t *testing.T, text []byte) []byte {
	t.Helper()
	b, e := crc.Seal(text)
	if e != api.OK {
		t.Fatal(len(text), e)
	}
	return b
}

func checkTurned(t *testing.T, b []byte, at int, pattern uint64) {
	t.Helper()
	if is, e := crc.Sealed(turned(b, at, pattern)); is || e != api.OK {
		t.Fatalf("%d bytes, %x turned from bit %d on: %t, %d", len(b), pattern, at, is, e)
	}
}

// patterns are some of the rows of width bits whose first and last are turned.
func patterns(width, salt int) []uint64 {
	ends := uint64(1) | 1<<(width-1)
	all := uint64(1)<<width - 1
	mixed := uint64(salt+1) * 0x9e3779b97f4a7c15
	return []uint64{ends, all, mixed>>17&all | ends, mixed>>32&all | ends, ieee>>1&all | ends, 0xedb88320&all | ends}
}

func TestFewBitsTurned(t *testing.T) { // P3.3: all rows of up to 10 bits, in the text, in the sum and across both
	for _, n := range []int{0, 1, 6} {
		b := seal(t, fill(n))
		for at := range 8 * len(b) {
			width := min(10, 8*len(b)-at)
			for pattern := uint64(1); pattern < 1<<width; pattern++ {
				checkTurned(t, b, at, pattern)
			}
		}
	}
}

func TestBitsTurned(t *testing.T) { // P3.3: rows of all widths at all places
	for _, n := range []int{0, 1, 2, 3, 4, 5, 9, 40} {
		b := seal(t, fill(n))
		places := 8 * len(b)
		for at := range places {
			for width := 1; width <= min(sideBySide, places-at); width++ {
				for _, pattern := range patterns(width, at) {
					checkTurned(t, b, at, pattern)
				}
			}
		}
	}
}

func TestBitsTurnedInLongest(t *testing.T) { // P3.3
	b := seal(t, fill(api.MaxBytes-4))
	last := 8*len(b) - sideBySide
	places := []int{0, 1, 7, 8, 31, 32, 8000, last / 2}
	for at := last - 2*sideBySide; at <= last; at++ {
		places = append(places, at)
	}
	for _, at := range places {
		for _, pattern := range patterns(sideBySide, at) {
			checkTurned(t, b, at, pattern)
		}
	}
}

// fault is how far the sum of b's text is from b's seal: 0 of a sealed text alone.
func fault(t *testing.T, b []byte) uint32 {
	t.Helper()
	at := len(b) - 4
	sum, e := crc.Sum32(b[:at])
	if e != api.OK {
		t.Fatal(e)
	}
	for k, x := range b[at:] {
		sum ^= int(x) << (8 * k)
	}
	return uint32(sum)
}

// reduced is x without what the basis can take from it; basis[k], if not 0, has k as its highest bit.
func reduced(x uint32, basis *[sideBySide]uint32) uint32 {
	for x != 0 && basis[bits.Len32(x)-1] != 0 {
		x ^= basis[bits.Len32(x)-1]
	}
	return x
}

func TestNoBitsTurnedCancelOut(t *testing.T) { // P3.3: faults add up, and those of 32 bits side by side are independent, so that no choice of them adds up to 0
	b := seal(t, fill(30))
	for at := range 8*len(b) - sideBySide + 1 {
		basis, sum, pattern := [sideBySide]uint32{}, uint32(0), uint64(0)
		for k := range sideBySide {
			alone := fault(t, turned(b, at+k, 1))
			left := reduced(alone, &basis)
			if left == 0 {
				t.Fatal(at, k, "the fault is one of those ahead of it together")
			}
			basis[bits.Len32(left)-1] = left
			sum, pattern = sum^alone, pattern|1<<k
			if together := fault(t, turned(b, at, pattern)); together != sum {
				t.Fatal(at, k, "the faults do not add up", together, sum)
			}
		}
	}
}

func TestMoreBitsTurned(t *testing.T) { // P3.3: a row of 33 bits that is the polynomial itself leaves the rest as it was
	divisor := bits.Reverse64(ieee) >> 31
	for _, n := range []int{1, 5, 40} {
		b := seal(t, fill(n))
		for at := range 8*len(b) - sideBySide {
			if is, e := crc.Sealed(turned(b, at, divisor)); !is || e != api.OK {
				t.Error(n, at, is, e)
			}
		}
	}
}
