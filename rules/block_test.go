package rules

import (
	"math"
	"slices"
	"testing"

	"volute/api"
	"volute/block"
	"volute/crc"
)

// said are the bytes of a block of the number 1020304 with this mark, this length and rest behind them, right or not, sealed.
func said(t *testing.T, mark, length int, rest []byte) []byte {
	t.Helper()
	b, e := crc.Seal(slices.Concat([]byte{1, 2, 3, 4, byte(mark), byte(length)}, rest))
	if e != api.OK {
		t.Fatal(e)
	}
	return b
}

func checkRead(t *testing.T, size int, b []byte) {
	t.Helper()
	read := func(b []byte) ([]byte, api.Errno) {
		x, e := block.Read(size, b)
		return x.Text, e
	}
	numbers := func(b []byte) (int, api.Errno) {
		x, e := block.Read(size, b)
		return x.Seq<<8 | x.Mark, e
	}
	checkLists(t, "Read", one(read), b)
	checkLists(t, "Read", number(numbers), b)
}

func TestBlockMake(t *testing.T) {
	for _, size := range []int{math.MinInt, -1, 0, 1, 2, 4, 15, api.MaxBlock, api.MaxBlock + 1, math.MaxInt} {
		for mark := -1; mark <= 4; mark++ {
			for _, seq := range []int{-1, 0, 0x01020304, api.MaxSeq - 1, api.MaxSeq} {
				of := func(text []byte) api.Block { return api.Block{Seq: seq, Mark: mark, Text: text} }
				made := func(text []byte) ([]byte, api.Errno) { return block.Make(size, of(text)) }
				check := func(text []byte) (int, api.Errno) { return 0, block.Check(size, of(text)) }
				for n := range api.MaxBlock + 3 {
					checkLists(t, "Make", one(made), fill(n))
					checkLists(t, "Check", number(check), fill(n))
				}
			}
		}
	}
}

func TestBlockRead(t *testing.T) { // bytes that can be read, and such with each error
	for _, size := range []int{1, 2, 4, 15, api.MaxBlock} {
		for mark := range 5 {
			for length := range size + 2 {
				for _, rest := range [][]byte{make([]byte, size), fill(size)} {
					b := said(t, mark, length, rest)
					checkRead(t, size, b)
					checkRead(t, size, b[:len(b)-1])
					checkRead(t, size+1, b)
					checkRead(t, 0, b)
					b[size] ^= 64
					checkRead(t, size, b)
				}
			}
		}
		checkRead(t, size, []byte{})
	}
}

func TestBlockBehindTheLength(t *testing.T) { // more Text in memory than is handed in, and more bytes than a block has
	memory := fill(2 * api.MaxBlock)
	was := slices.Clone(memory)
	for size := 1; size <= api.MaxBlock; size++ {
		for n := range size + 1 {
			b, e := block.Make(size, api.Block{Seq: 0x01020304, Mark: api.Last, Text: memory[:n]})
			want := said(t, api.Last, n, append(slices.Clone(was[:n]), make([]byte, size-n)...))
			if !slices.Equal(b, want) || e != api.OK || !slices.Equal(memory, was) {
				t.Error(size, n, b, e, memory)
			}
			long := append(slices.Clone(b), memory...)
			x, e := block.Read(size, long[:size+10])
			if !slices.Equal(x.Text, was[:n]) || e != api.OK {
				t.Error(size, n, x, e)
			}
			spoil(x.Text)
			if !slices.Equal(long, append(slices.Clone(want), was...)) {
				t.Error(size, n, "the Text shares memory with the bytes")
			}
			for k := range len(b) {
				if x, e := block.Read(size, b[:k]); x.Seq != 0 || x.Mark != 0 || len(x.Text) != 0 || e != api.ErrLen {
					t.Error(size, n, k, x, e)
				}
			}
		}
	}
}
