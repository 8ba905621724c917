// Package bit is layer 1: bits, nibbles, numbers as bytes. Its chapter, doc/01-bit.md, says what each call answers.
package bit

import (
	"iter"
	"math/bits"

	"volute/api"
)

// Widths of the pieces that a byte is taken into; each divides 8.
const (
	bitWidth    = 1
	nibbleWidth = 4
)

// maxSize keeps every number of Put and Get within 32 bits.
const maxSize = 4

// Bits answers the bits of b, of each byte the highest first.
func Bits(b []byte) ([]int, api.Errno) { return takeApart(b, bitWidth) }

// Pack answers the bytes whose bits are l.
func Pack(l []int) ([]byte, api.Errno) { return putTogether(l, bitWidth) }

// Nibbles answers the nibbles of b, of each byte the higher first.
func Nibbles(b []byte) ([]int, api.Errno) { return takeApart(b, nibbleWidth) }

// Join answers the bytes whose nibbles are l.
func Join(l []int) ([]byte, api.Errno) { return putTogether(l, nibbleWidth) }

// Put answers b, and n in size bytes behind it.
func Put(b []byte, n, size int) ([]byte, api.Errno) {
	if !isSize(size) || !fits(n, 8*size) {
		return nil, api.ErrArg
	}
	if len(b) > api.MaxBytes-size {
		return nil, api.ErrLen
	}
	// b may have spare room that is not ours to write to.
	out := make([]byte, 0, len(b)+size)
	out = append(out, b...)
	for left := size - 1; left >= 0; left-- {
		out = append(out, byte(n>>(8*left)))
	}
	return out, api.OK
}

// Get answers the number that stands in size bytes of b from at on. The chapter sets b itself no bound here.
func Get(b []byte, at, size int) (int, api.Errno) {
	if !isSize(size) || at < 0 || at > len(b) {
		return 0, api.ErrArg
	}
	// at is within b, so that this difference, unlike at + size, cannot wrap.
	if len(b)-at < size {
		return 0, api.ErrBytes
	}
	n := 0
	for _, x := range b[at : at+size] {
		n = n<<8 | int(x)
	}
	return n, api.OK
}

// Turn answers b with the bits turned about that are 1 in mask.
func Turn(b, mask []byte) ([]byte, api.Errno) {
	if isLong(b) || isLong(mask) {
		return nil, api.ErrLen
	}
	out := make([]byte, len(b))
	copy(out, b)
	for i := range min(len(b), len(mask)) {
		out[i] ^= mask[i]
	}
	return out, api.OK
}

// Ones answers how many of n's 32 lowest bits are 1; of a number below 0 it is 0.
func Ones(n int) int {
	if n < 0 {
		return 0
	}
	return bits.OnesCount32(uint32(n))
}

func isLong(b []byte) bool { return len(b) > api.MaxBytes }

func isSize(size int) bool { return size >= 1 && size <= maxSize }

// fits shifts n down instead of a 1 up: a limit of 2^32 need not be a number of the machine's.
func fits(n, width int) bool { return n >= 0 && n>>width == 0 }

func takeApart(b []byte, width int) ([]int, api.Errno) {
	if isLong(b) {
		return nil, api.ErrLen
	}
	l := make([]int, 0, len(b)*8/width)
	for piece := range pieces(b, width) {
		l = append(l, piece)
	}
	return l, api.OK
}

func putTogether(l []int, width int) ([]byte, api.Errno) {
	each := 8 / width
	if len(l) > api.MaxBits || len(l)%each != 0 {
		return nil, api.ErrLen
	}
	for _, piece := range l {
		if !fits(piece, width) {
			return nil, api.ErrArg
		}
	}
	b := make([]byte, 0, len(l)/each)
	for whole := range wholes(l, width) {
		b = append(b, whole)
	}
	return b, api.OK
}

// pieces tells the pieces of width bits that b is made of, of each byte the highest first.
func pieces(b []byte, width int) iter.Seq[int] {
	mask := 1<<width - 1
	return func(yield func(int) bool) {
		for _, x := range b {
			for left := 8 - width; left >= 0; left -= width {
				if !yield(int(x) >> left & mask) {
					return
				}
			}
		}
	}
}

// wholes tells the bytes that pieces would take into l: l's length is a multiple of a byte's pieces, and each of them fits.
func wholes(l []int, width int) iter.Seq[byte] {
	each := 8 / width
	return func(yield func(byte) bool) {
		for at := 0; at < len(l); at += each {
			whole := 0
			for _, piece := range l[at : at+each] {
				whole = whole<<width | piece
			}
			if !yield(byte(whole)) {
				return
			}
		}
	}
}
