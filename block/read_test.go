package block_test

import (
	"bytes"
	"math"
	"slices"
	"testing"

	"volute/api"
	"volute/block"
)

func TestRead(t *testing.T) { // P13.2: each size, Mark, length that may be, and edge of Seq, of bytes put together by hand
	for size := 1; size <= api.MaxBlock; size++ {
		for _, b := range rights(size) {
			wantRead(t, size, bytesOf(size, b), b)
		}
	}
}

func TestMadeIsRead(t *testing.T) { // P13.3
	for size := 1; size <= api.MaxBlock; size++ {
		for _, b := range rights(size) {
			made, e := block.Make(size, b)
			if e != api.OK {
				t.Fatal(size, b, e)
			}
			wantRead(t, size, made, b)
		}
	}
}

// wantAgain holds what is read of b to being made again; of what cannot be read nothing is asked.
func wantAgain(t *testing.T, size int, b []byte) (isRead bool) {
	t.Helper()
	x, e := block.Read(size, b)
	if e != api.OK {
		return false
	}
	wantMade(t, size, x, b)
	return true
}

func TestReadIsMade(t *testing.T) { // P13.3: of all marks and lengths beside each other, and of each place behind them filled or not
	for size := 1; size <= api.MaxBlock; size++ {
		count := 0
		for mark := range 256 {
			for length := range 256 {
				for _, filled := range []int{0, size - 1, size} {
					rest := append(fill(filled, mark), make([]byte, size-filled)...)
					if wantAgain(t, size, sealed(uint32(mark*length), byte(mark), byte(length), rest)) {
						count++
					}
				}
			}
		}
		// Without Last just one length may be, whatever is filled; with it, each length that is not below what is filled.
		if want := 2 * (3 + size + 1 + 2 + 1); count != want {
			t.Errorf("%d: %d are read, not %d", size, count, want)
		}
	}
}

func TestReadSizeWrong(t *testing.T) { // P13.2, R1, R4, R5: ahead of the length, the sum and the bytes
	for _, size := range noSize {
		for n := range api.MaxBlock + extra + 3 {
			wantUnread(t, size, make([]byte, n), api.ErrArg)
			wantUnread(t, size, seal(make([]byte, n)), api.ErrArg)
		}
		for right := 1; right <= api.MaxBlock; right++ {
			wantUnread(t, size, bytesOf(right, api.Block{Mark: api.Last}), api.ErrArg)
		}
		wantUnread(t, size, nil, api.ErrArg)
		wantUnread(t, size, sealed(1, 2, 0, make([]byte, max(0, min(size, 300)))), api.ErrArg)
	}
}

func TestReadLength(t *testing.T) { // P13.2, R1, R4: each length around the right one, ahead of the sum and the bytes
	for size := 1; size <= api.MaxBlock; size++ {
		whole := bytesOf(size, api.Block{Seq: 5, Mark: api.Last, Text: fill(size, 1)})
		for n := range 2*len(whole) + 1 {
			if n == size+extra {
				continue
			}
			wantUnread(t, size, slices.Repeat(whole, 3)[:n], api.ErrLen)
			wantUnread(t, size, make([]byte, n), api.ErrLen)
			if n >= 10 {
				wantUnread(t, size, sealed(5, 2, 0, make([]byte, n-10)), api.ErrLen)
			}
		}
		wantUnread(t, size, nil, api.ErrLen)
		wantUnread(t, size, []byte{}, api.ErrLen)
		wantUnread(t, size, append(bytes.Clone(whole), 0), api.ErrLen)
		wantUnread(t, size, make([]byte, api.MaxBytes), api.ErrLen)
		wantUnread(t, size, make([]byte, api.MaxBytes+1), api.ErrLen)
		wantRead(t, size, whole, api.Block{Seq: 5, Mark: api.Last, Text: fill(size, 1)})
	}
}

func TestReadOtherSize(t *testing.T) { // P13.2: a block is of its own size alone
	for size := 1; size <= api.MaxBlock; size++ {
		for other := 1; other <= api.MaxBlock; other++ {
			if b := bytesOf(size, api.Block{Seq: 1, Mark: api.Last}); other != size {
				wantUnread(t, other, b, api.ErrLen)
			}
		}
	}
}

func TestOneBitTurned(t *testing.T) { // P13.2, R4: wherever it stands, in the sum too, and ahead of what else is wrong then
	for size := 1; size <= api.MaxBlock; size++ {
		for _, right := range rights(size) {
			b := bytesOf(size, right)
			for k := range 8 * len(b) {
				b[k/8] ^= 1 << (k % 8)
				wantUnread(t, size, b, api.ErrSum)
				b[k/8] ^= 1 << (k % 8)
			}
		}
	}
}

func TestNotSealed(t *testing.T) { // P13.2, R4: ahead of bytes that are of no right Block
	for size := 1; size <= api.MaxBlock; size++ {
		n := size + extra
		for _, b := range [][]byte{make([]byte, n), slices.Repeat([]byte{255}, n), slices.Repeat([]byte{1}, n), slices.Repeat([]byte{2}, n)} {
			wantUnread(t, size, b, api.ErrSum)
		}
		wrong := sealed(math.MaxUint32, 255, 255, fill(size, 1))
		wrong[n-1] ^= 128
		wantUnread(t, size, wrong, api.ErrSum)
		right := bytesOf(size, api.Block{Seq: 77, Mark: api.First, Text: fill(size, 1)})
		sum := right[n-4:]
		slices.Reverse(sum)
		wantUnread(t, size, right, api.ErrSum)
	}
}

func TestReadSeqWrong(t *testing.T) { // P13.2: a number too great
	for size := 1; size <= api.MaxBlock; size++ {
		for _, mark := range marks {
			for _, seq := range []uint32{api.MaxSeq, api.MaxSeq + 1, 0x7fffffff, 0x80000000, 0x80000001, 0xc0000000, 0xfffffffe, math.MaxUint32} {
				wantUnread(t, size, sealed(seq, byte(mark), byte(size), fill(size, 4)), api.ErrBytes)
			}
			last := sealed(api.MaxSeq-1, byte(mark), byte(size), fill(size, 4))
			wantRead(t, size, last, api.Block{Seq: api.MaxSeq - 1, Mark: mark, Text: fill(size, 4)})
		}
	}
}

func TestReadMarkWrong(t *testing.T) { // P13.2: each byte that is no mark, beside each length
	for size := 1; size <= api.MaxBlock; size++ {
		for mark := 4; mark < 256; mark++ {
			for length := range size + 2 {
				wantUnread(t, size, sealed(1, byte(mark), byte(length), make([]byte, size)), api.ErrBytes)
			}
			wantUnread(t, size, sealed(1, byte(mark), byte(size), fill(size, 5)), api.ErrBytes)
		}
	}
}

func TestReadTextTooLong(t *testing.T) { // P13.2, R1: each length above size, with each Mark, of noughts and of other bytes
	for size := 1; size <= api.MaxBlock; size++ {
		for length := size + 1; length < 256; length++ {
			for _, mark := range marks {
				wantUnread(t, size, sealed(1, byte(mark), byte(length), make([]byte, size)), api.ErrBytes)
				wantUnread(t, size, sealed(1, byte(mark), byte(length), fill(size, 6)), api.ErrBytes)
			}
		}
	}
}

func TestReadTextTooShort(t *testing.T) { // P13.2: a length below size without Last
	for size := 1; size <= api.MaxBlock; size++ {
		for length := range size {
			rest := append(fill(length, 7), make([]byte, size-length)...)
			for _, mark := range []byte{0, api.First} {
				wantUnread(t, size, sealed(1, mark, byte(length), rest), api.ErrBytes)
			}
			for _, mark := range []byte{api.Last, api.First | api.Last} {
				wantRead(t, size, sealed(1, mark, byte(length), rest), api.Block{Seq: 1, Mark: int(mark), Text: fill(length, 7)})
			}
		}
	}
}

func TestReadNoNoughts(t *testing.T) { // P13.2: something other than noughts behind the Text, at each place and of each bit
	for size := 1; size <= api.MaxBlock; size++ {
		for length := range size {
			for at := length; at < size; at++ {
				for k := range 8 {
					rest := append(fill(length, 8), make([]byte, size-length)...)
					rest[at] = 1 << k
					for _, mark := range []byte{api.Last, api.First | api.Last} {
						wantUnread(t, size, sealed(1, mark, byte(length), rest), api.ErrBytes)
					}
				}
			}
			wantUnread(t, size, sealed(1, api.Last, byte(length), fill(size, 8)), api.ErrBytes)
		}
	}
}

func TestAgain(t *testing.T) { // R3: an answer hangs neither on what was asked ahead of it nor on how often
	for size := api.MaxBlock; size >= 1; size-- {
		for _, b := range rights(size) {
			wantNone(t, size, api.Block{Seq: b.Seq, Mark: 4}, api.ErrArg)
			wantUnread(t, size, make([]byte, size), api.ErrLen)
			for range 2 {
				wantMade(t, size, b, bytesOf(size, b))
				wantRead(t, size, bytesOf(size, b), b)
			}
		}
	}
}
