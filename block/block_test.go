package block_test

import (
	"bytes"
	"encoding/binary"
	"hash/crc32"
	"math"
	"testing"

	"volute/api"
	"volute/block"
)

// extra is how many bytes a block has beside those of a message.
const extra = 10

var (
	// edgeSeqs are numbers that may be: the edges, and those around which a byte more is needed.
	edgeSeqs = []int{0, 1, 255, 256, 1<<16 - 1, 1 << 16, 1<<24 - 1, 1 << 24, 0x01020304, api.MaxSeq - 2, api.MaxSeq - 1}
	// marks are all that may be.
	marks = []int{0, api.First, api.Last, api.First | api.Last}

	// noSize, noSeq and noMark are numbers that may not be, some of them ones that may be in their lowest bits.
	noSize = []int{0, -1, -2, -api.MaxBlock, api.MaxBlock + 1, api.MaxBlock + 2, 26, 32, 255, 256, 257, 1 << 31, 1 << 32, 1<<32 + 1, -1 << 32, 1 - 1<<32, math.MaxInt, math.MaxInt - 1, math.MinInt, math.MinInt + 1, math.MinInt + 4}
	noSeq  = []int{-1, -2, -api.MaxSeq, api.MaxSeq, api.MaxSeq + 1, 1 << 31, 1<<31 + 1, 1<<32 - 1, 1 << 32, 1<<32 + 1, -1 << 32, 1 - 1<<32, 1 << 62, math.MaxInt, math.MaxInt - 1, math.MinInt, math.MinInt + 1}
	noMark = []int{-1, -2, -3, -4, 4, 5, 6, 7, 8, 255, 256, 257, 258, 1 << 32, 1<<32 + 2, -1 << 32, 2 - 1<<32, math.MaxInt, math.MaxInt - 1, math.MinInt, math.MinInt + 2}
)

// fill is a text of n bytes without a nought, another one for each seed.
func fill(n, seed int) []byte {
	b := make([]byte, n)
	for i := range b {
		b[i] = byte(1 + (i*151+seed*29+i*i>>1)%255)
	}
	return b
}

// seal is b and its sum behind it, worked out by the library.
func seal(b []byte) []byte {
	return binary.LittleEndian.AppendUint32(bytes.Clone(b), crc32.ChecksumIEEE(b))
}

// sealed are these numbers, and rest behind them, sealed: the bytes of a right Block or not.
func sealed(seq uint32, mark, length byte, rest []byte) []byte {
	b := binary.BigEndian.AppendUint32(nil, seq)
	b = append(b, mark, length)
	return seal(append(b, rest...))
}

// bytesOf are the bytes of a right Block, put together by hand.
func bytesOf(size int, b api.Block) []byte {
	rest := make([]byte, size)
	copy(rest, b.Text)
	return sealed(uint32(b.Seq), byte(b.Mark), byte(len(b.Text)), rest)
}

// rights are right Blocks of this size: with each Mark, each length that may be beside it and each edge of Seq, and of each length a Text of noughts, too.
func rights(size int) []api.Block {
	var list []api.Block
	for _, mark := range marks {
		least := size
		if mark == 2 || mark == 3 {
			least = 0
		}
		for n := least; n <= size; n++ {
			for k, seq := range edgeSeqs {
				list = append(list, api.Block{Seq: seq, Mark: mark, Text: fill(n, k)})
			}
			list = append(list, api.Block{Seq: size, Mark: mark, Text: make([]byte, n)})
		}
	}
	return list
}

func same(a, b api.Block) bool {
	return a.Seq == b.Seq && a.Mark == b.Mark && bytes.Equal(a.Text, b.Text)
}

// wantMade holds Check and Make to a right Block.
func wantMade(t *testing.T, size int, b api.Block, want []byte) {
	t.Helper()
	if e := block.Check(size, b); e != api.OK {
		t.Errorf("Check(%d, %v): %d", size, b, e)
	}
	if got, e := block.Make(size, b); !bytes.Equal(got, want) || e != api.OK {
		t.Errorf("Make(%d, %v) = %x, %d, not %x", size, b, got, e, want)
	}
}

// wantNone holds Check and Make to an error.
func wantNone(t *testing.T, size int, b api.Block, want api.Errno) {
	t.Helper()
	if e := block.Check(size, b); e != want {
		t.Errorf("Check(%d, %v): %d, not %d", size, b, e, want)
	}
	if got, e := block.Make(size, b); len(got) != 0 || e != want {
		t.Errorf("Make(%d, %v) = %x, %d, not %d", size, b, got, e, want)
	}
}

func wantRead(t *testing.T, size int, b []byte, want api.Block) {
	t.Helper()
	if got, e := block.Read(size, b); !same(got, want) || e != api.OK {
		t.Errorf("Read(%d, %x) = %v, %d, not %v", size, b, got, e, want)
	}
}

func wantUnread(t *testing.T, size int, b []byte, want api.Errno) {
	t.Helper()
	if got, e := block.Read(size, b); !same(got, api.Block{}) || e != want {
		t.Errorf("Read(%d, %x) = %v, %d, not %d", size, b, got, e, want)
	}
}
