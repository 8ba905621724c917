package cut_test

import (
	"bytes"
	"testing"

	"volute/api"
)

func TestExample(t *testing.T) { // P20.1, the chapter's example: an empty message is one block, First and Last
	for size := 1; size <= api.MaxBlock; size++ {
		for _, msg := range edgeMsgs {
			want := []api.Block{{Seq: 5, Mark: 3}}
			wantBlocks(t, sized(size, msg), 5, nil, want)
			wantBlocks(t, sized(size, msg), 5, []byte{}, want)
			wantBlocks(t, sized(size, msg), 5, text(9, 1)[:0], want)
		}
	}
}

func TestWrittenOut(t *testing.T) { // P20.1: marks and numbers of one block, of two, of three, of four
	a, b, c, d := []byte("abcd"), []byte("efgh"), []byte("ijkl"), []byte("m")
	for _, x := range []struct {
		msg  string
		want []api.Block
	}{
		{"", []api.Block{{Seq: 7, Mark: 3}}},
		{"a", []api.Block{{Seq: 7, Mark: 3, Text: a[:1]}}},
		{"abc", []api.Block{{Seq: 7, Mark: 3, Text: a[:3]}}},
		{"abcd", []api.Block{{Seq: 7, Mark: 3, Text: a}}},
		{"abcde", []api.Block{{Seq: 7, Mark: 1, Text: a}, {Seq: 8, Mark: 2, Text: b[:1]}}},
		{"abcdefg", []api.Block{{Seq: 7, Mark: 1, Text: a}, {Seq: 8, Mark: 2, Text: b[:3]}}},
		{"abcdefgh", []api.Block{{Seq: 7, Mark: 1, Text: a}, {Seq: 8, Mark: 2, Text: b}}},
		{"abcdefghi", []api.Block{{Seq: 7, Mark: 1, Text: a}, {Seq: 8, Text: b}, {Seq: 9, Mark: 2, Text: c[:1]}}},
		{"abcdefghijkl", []api.Block{{Seq: 7, Mark: 1, Text: a}, {Seq: 8, Text: b}, {Seq: 9, Mark: 2, Text: c}}},
		{"abcdefghijklm", []api.Block{{Seq: 7, Mark: 1, Text: a}, {Seq: 8, Text: b}, {Seq: 9, Text: c}, {Seq: 10, Mark: 2, Text: d}}},
	} {
		wantBlocks(t, plain(), 7, []byte(x.msg), x.want)
	}
}

func TestSingleBytes(t *testing.T) { // P20.1: as many blocks as bytes
	wantBlocks(t, sized(1, 200), 0, []byte{9, 8, 7}, []api.Block{{Mark: 1, Text: []byte{9}}, {Seq: 1, Text: []byte{8}}, {Seq: 2, Mark: 2, Text: []byte{7}}})
	wantCut(t, sized(1, 200), 0, text(200, 1))
}

func TestLengths(t *testing.T) { // P20.1: each size, each length that a message may have
	for size := 1; size <= api.MaxBlock; size++ {
		c := sized(size, api.MaxMsg)
		for n := range api.MaxMsg + 1 {
			wantCut(t, c, 0, text(n, n))
			wantCut(t, c, 0x01020304, bytes.Repeat([]byte{255}, n))
			wantCut(t, c, 1, make([]byte, n))
		}
	}
}

func TestMsg(t *testing.T) { // P20.1, R4: up to Msg bytes, and no more, each size and edges of Msg
	for size := 1; size <= api.MaxBlock; size++ {
		for _, msg := range edgeMsgs {
			c := sized(size, msg)
			for _, n := range lengths(c) {
				wantCut(t, c, 3, text(n, 1))
			}
			for _, n := range []int{msg + 1, msg + 2, msg + size, 2*msg + 1, 256 + msg, api.MaxBytes, 1<<16 + msg} {
				wantNone(t, c, 3, text(n, 1), api.ErrLen)
			}
			wantNone(t, c, 0, text(msg+1, 1), api.ErrLen)
		}
	}
}

func TestSeq(t *testing.T) { // P20.1, R5: seq and all blocks are MaxSeq - 1, MaxSeq and MaxSeq + 1
	for size := 1; size <= api.MaxBlock; size++ {
		for _, msg := range edgeMsgs {
			c := sized(size, msg)
			for _, n := range lengths(c) {
				m, most := text(n, 2), api.MaxSeq-count(c, n)
				for _, seq := range []int{0, 1, 255, 256, 1 << 16, most / 2, most - 1, most} {
					wantCut(t, c, seq, m)
				}
				for _, seq := range []int{most + 1, most + 2, api.MaxSeq - 1, api.MaxSeq} {
					if seq > most {
						wantNone(t, c, seq, m, api.ErrArg)
					}
				}
			}
		}
	}
}

func TestSeqWrong(t *testing.T) { // P20.1, R1, R4, R5: below 0, from MaxSeq on, the ends of the ints
	for size := 1; size <= api.MaxBlock; size++ {
		c := sized(size, api.MaxMsg)
		for _, seq := range noSeq {
			for _, n := range lengths(c) {
				wantNone(t, c, seq, text(n, 1), api.ErrArg)
			}
		}
	}
}

func TestLenAheadOfSeq(t *testing.T) { // P20.1, R4: a message that is too long is told ahead of a seq that may not be
	for _, c := range []api.Config{plain(), sized(1, 200), sized(16, 200), sized(1, 0), sized(16, 0)} {
		for _, seq := range noSeq {
			wantNone(t, c, seq, text(c.Msg+1, 1), api.ErrLen)
			wantNone(t, c, seq, text(1<<16, 1), api.ErrLen)
			wantNone(t, c, seq, text(c.Msg, 1), api.ErrArg)
		}
		wantNone(t, c, api.MaxSeq-1, text(c.Msg+c.Bytes, 1), api.ErrLen)
	}
}

func TestConfigWrong(t *testing.T) { // P20.1, R4: whatever else is right or wrong
	for _, c := range wrongConfigs() {
		for _, seq := range append([]int{0, 1, 7, api.MaxSeq - 200}, noSeq...) {
			for _, n := range []int{0, 1, 4, 29, 30, 31, 200, 201, 1000} {
				wantNone(t, c, seq, text(n, 1), api.ErrArg)
			}
		}
	}
}

func TestOtherFields(t *testing.T) { // P20.1: no other field of a right Config matters, Seqs neither
	for _, c := range others() {
		for n := range c.Msg + 1 {
			for _, seq := range []int{0, 7, api.MaxSeq - count(c, n)} {
				wantBlocks(t, c, seq, text(n, 3), byText(plain(), seq, text(n, 3)))
			}
			wantNone(t, c, api.MaxSeq-count(c, n)+1, text(n, 3), api.ErrArg)
		}
		wantNone(t, c, 0, text(c.Msg+1, 3), api.ErrLen)
	}
}
