package block_test

import (
	"encoding/hex"
	"math"
	"slices"
	"testing"

	"volute/api"
	"volute/block"
)

func TestMakeKnown(t *testing.T) { // P13.1, P13.2: worked out apart from this project
	for _, c := range []struct {
		size, seq, mark int
		text, want      string
	}{
		{1, 0, 0, "61", "00000000000161f1bfc2be"},
		{1, 0, 1, "00", "000000000101000884b585"},
		{1, 0, 2, "", "00000000020000100be89e"},
		{1, 0, 3, "ff", "000000000301ffebbf33ab"},
		{1, 1073741823, 3, "", "3fffffff0300002ddea431"},
		{4, 16909060, 2, "6162", "010203040202616200007d75bfa7"},
		{4, 16909060, 0, "61626364", "01020304000461626364f3bc3861"},
		{4, 255, 1, "00000000", "000000ff0104000000002357604f"},
		{4, 256, 3, "00", "00000100030100000000f633d494"},
		{15, 1, 2, "0101010101010101010101010101", "00000001020e010101010101010101010101010100e3d79c3d"},
		{16, 0, 2, "", "0000000002000000000000000000000000000000000063dafdad"},
		{16, 1073741823, 0, "000102030405060708090a0b0c0d0e0f", "3fffffff0010000102030405060708090a0b0c0d0e0f57ad784f"},
		{16, 65536, 1, "ffffffffffffffffffffffffffffffff", "000100000110ffffffffffffffffffffffffffffffffad90f81c"},
		{16, 7, 3, "313233343536373839", "000000070309313233343536373839000000000000006632108b"},
	} {
		text, err := hex.DecodeString(c.text)
		want, err2 := hex.DecodeString(c.want)
		if err != nil || err2 != nil {
			t.Fatal(err, err2)
		}
		b := api.Block{Seq: c.seq, Mark: c.mark, Text: text}
		wantMade(t, c.size, b, want)
		wantRead(t, c.size, want, b)
	}
}

func TestMake(t *testing.T) { // P13.1: each size, Mark, length that may be, and edge of Seq
	for size := 1; size <= api.MaxBlock; size++ {
		for _, b := range rights(size) {
			wantMade(t, size, b, bytesOf(size, b))
		}
	}
}

func TestMakeLength(t *testing.T) { // the chapter's beginning, example 1: size + 10 bytes, 11 of size 1
	for size := 1; size <= api.MaxBlock; size++ {
		for _, b := range rights(size) {
			if got, e := block.Make(size, b); len(got) != size+extra || e != api.OK {
				t.Errorf("Make(%d, %v): %d bytes, %d", size, b, len(got), e)
			}
		}
	}
	if b, e := block.Make(1, api.Block{Text: []byte("a")}); len(b) != 11 || e != api.OK {
		t.Error(b, e)
	}
}

func TestSizeWrong(t *testing.T) { // P13.1, R1, R4, R5: ahead of all else, beside Blocks that are right for another size and such that are right for none
	for _, size := range noSize {
		for n := range api.MaxBlock + 3 {
			for mark := -1; mark <= 4; mark++ {
				for _, seq := range []int{0, 5, api.MaxSeq - 1, api.MaxSeq, -1, math.MaxInt, math.MinInt} {
					wantNone(t, size, api.Block{Seq: seq, Mark: mark, Text: fill(n, n)}, api.ErrArg)
				}
			}
		}
		wantNone(t, size, api.Block{}, api.ErrArg)
		wantNone(t, size, api.Block{Mark: api.Last, Text: make([]byte, max(0, min(size, 300)))}, api.ErrArg)
	}
}

func TestSeqWrong(t *testing.T) { // P13.1, R1, R5: beside a Text that may be, one that may not, and each Mark
	for size := 1; size <= api.MaxBlock; size++ {
		for _, seq := range noSeq {
			for mark := -1; mark <= 4; mark++ {
				for _, n := range []int{0, size - 1, size, size + 1} {
					wantNone(t, size, api.Block{Seq: seq, Mark: mark, Text: fill(n, 1)}, api.ErrArg)
				}
			}
		}
	}
}

func TestMarkWrong(t *testing.T) { // P13.1, R1, R5: beside a Text that may be, one that may not, and each edge of Seq
	for size := 1; size <= api.MaxBlock; size++ {
		for _, mark := range noMark {
			for _, seq := range slices.Concat(edgeSeqs, noSeq) {
				for _, n := range []int{0, size - 1, size, size + 1} {
					wantNone(t, size, api.Block{Seq: seq, Mark: mark, Text: fill(n, 1)}, api.ErrArg)
				}
			}
		}
	}
}

func TestTextTooLong(t *testing.T) { // P13.1, R1, R4: with each Mark, one byte more and far more, a whole turn of the length's byte among them
	for size := 1; size <= api.MaxBlock; size++ {
		for _, mark := range marks {
			for _, n := range []int{size + 1, size + 2, 2*size + 1, api.MaxBlock + 1, 255, 256, 256 + size, 257 + size, api.MaxBytes, api.MaxBytes + 1, 1<<16 + size} {
				wantNone(t, size, api.Block{Seq: 9, Mark: mark, Text: fill(n, 2)}, api.ErrLen)
			}
		}
	}
}

func TestTextTooShort(t *testing.T) { // P13.1, R4: no Text below size, but that of a last block
	for size := 1; size <= api.MaxBlock; size++ {
		for n := range size {
			short := api.Block{Seq: 9, Text: fill(n, 3)}
			for _, mark := range []int{0, api.First} {
				short.Mark = mark
				wantNone(t, size, short, api.ErrLen)
			}
			for _, mark := range []int{api.Last, api.First | api.Last} {
				short.Mark = mark
				wantMade(t, size, short, bytesOf(size, short))
			}
		}
	}
}

func TestNoText(t *testing.T) { // P13.1, R2: nil and an empty Text
	for size := 1; size <= api.MaxBlock; size++ {
		for _, text := range [][]byte{nil, {}, make([]byte, 0, size), fill(size, 1)[:0]} {
			wantNone(t, size, api.Block{Seq: 3, Text: text}, api.ErrLen)
			wantNone(t, size, api.Block{Seq: 3, Mark: api.First, Text: text}, api.ErrLen)
			for _, mark := range []int{api.Last, api.First | api.Last} {
				b := api.Block{Seq: 3, Mark: mark, Text: text}
				wantMade(t, size, b, bytesOf(size, api.Block{Seq: 3, Mark: mark}))
			}
		}
	}
}

func TestNoughtsStayApart(t *testing.T) { // P13.1: noughts of a Text and noughts behind it are told apart by the length
	for size := 1; size <= api.MaxBlock; size++ {
		had := map[string]int{}
		for n := range size + 1 {
			b, e := block.Make(size, api.Block{Mark: api.Last, Text: make([]byte, n)})
			if other, is := had[string(b)]; is || e != api.OK {
				t.Errorf("%d: %d and %d noughts are %x, %d", size, other, n, b, e)
			}
			had[string(b)] = n
		}
	}
}
