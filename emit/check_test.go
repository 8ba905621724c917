package emit_test

import (
	"bytes"
	"slices"
	"testing"

	"volute/api"
)

func TestNew(t *testing.T) { // P18.1: each size, edges of Seq, bytes of all kinds
	for size := 1; size <= api.MaxBlock; size++ {
		c := sized(size, 10, 9)
		for k, seq := range edgeSeqs {
			wantNew(t, c, seq, blockOf(c, k))
			wantNew(t, c, seq, make([]byte, size+extra))
			wantNew(t, c, seq, bytes.Repeat([]byte{255}, size+extra))
		}
	}
	for _, c := range configs() {
		wantNew(t, c, 7, blockOf(c, 7))
	}
}

func TestNewSeqWrong(t *testing.T) { // P18.1, R1, R4, R5
	for _, c := range configs() {
		for _, seq := range noSeq {
			wantNoNew(t, c, seq, blockOf(c, 1))
			wantNoNew(t, c, seq, nil)
		}
	}
}

func TestNewBytesWrong(t *testing.T) { // P18.1, R1, R4: none, one fewer, one more, and far more
	for _, c := range configs() {
		for _, n := range noBytes(c) {
			wantNoNew(t, c, 0, text(n, 1))
			wantNoNew(t, c, api.MaxSeq-1, make([]byte, n))
		}
		wantNoNew(t, c, 0, nil)
		wantNoNew(t, c, 0, []byte{})
		wantNoNew(t, c, 0, blockOf(c, 1)[:0])
	}
}

func TestNewOfOtherSize(t *testing.T) { // P18.1: bytes of a block of another size
	for size := 1; size <= api.MaxBlock; size++ {
		for other := 1; other <= api.MaxBlock; other++ {
			if b := text(other+extra, 1); other == size {
				wantNew(t, sized(size, 4, 4), 5, b)
			} else {
				wantNoNew(t, sized(size, 4, 4), 5, b)
			}
		}
	}
}

func TestConfigWrong(t *testing.T) { // the chapter's beginning, R4: whatever else is right or wrong
	for _, c := range wrongConfigs() {
		for n := range api.MaxBlock + extra + 3 {
			wantNoNew(t, c, 0, text(n, n))
			wantNoNew(t, c, -1, text(n, n))
			wantWrong(t, c, api.Emit{Bytes: text(n, n)})
			wantWrong(t, c, api.Emit{Seq: -1, Round: 256, From: -1, Bytes: text(n, n)})
		}
	}
}

func TestCheck(t *testing.T) { // P18.1: each edge beside each other one, acked and not
	for _, c := range configs() {
		b := blockOf(c, 3)
		for _, seq := range edgeSeqs {
			for _, round := range edgeRounds {
				for _, from := range edgeFroms(c) {
					wantRight(t, c, api.Emit{Seq: seq, Round: round, From: from, Bytes: b})
					wantRight(t, c, api.Emit{Seq: seq, Round: round, From: from, Acked: true, Bytes: b})
				}
			}
		}
	}
}

func TestCheckEachPlaceAndRound(t *testing.T) { // P18.1: places that are no multiples of Batch, too, and not one more than Most
	for _, c := range []api.Config{plain(), sized(1, 4, 64), sized(16, 16, 63)} {
		b := blockOf(c, 4)
		for from := -300; from <= most(c)+300; from++ {
			e := api.Emit{Seq: 5, Round: 6, From: from, Bytes: b}
			if from >= 0 && from <= most(c) {
				wantRight(t, c, e)
			} else {
				wantWrong(t, c, e)
			}
		}
		for round := -300; round <= 600; round++ {
			e := api.Emit{Seq: 5, Round: round, From: 6, Bytes: b}
			if round >= 0 && round <= 255 {
				wantRight(t, c, e)
			} else {
				wantWrong(t, c, e)
			}
		}
	}
}

func TestPlacesHangOnTheConfig(t *testing.T) { // P18.1: Most is that of the Config at hand, for each Bytes and Passes
	for size := 1; size <= api.MaxBlock; size++ {
		for passes := 4; passes <= api.MaxPasses; passes++ {
			c := sized(size, passes, 5)
			e := api.Emit{From: most(c), Bytes: blockOf(c, 1)}
			wantRight(t, c, e)
			e.From++
			wantWrong(t, c, e)
		}
	}
}

func TestSeqWrong(t *testing.T) { // P18.1, R1, R5: beside right and wrong ones of the others
	for _, c := range configs() {
		for _, seq := range noSeq {
			for _, round := range append(slices.Clone(edgeRounds), -1, 256) {
				for _, from := range []int{-1, 0, most(c), most(c) + 1} {
					wantWrong(t, c, api.Emit{Seq: seq, Round: round, From: from, Bytes: blockOf(c, 1)})
				}
			}
			wantWrong(t, c, api.Emit{Seq: seq})
		}
	}
}

func TestRoundWrong(t *testing.T) { // P18.1, R1, R5
	for _, c := range configs() {
		for _, round := range noRound {
			for _, from := range append(edgeFroms(c), -1, most(c)+1) {
				wantWrong(t, c, api.Emit{Seq: 5, Round: round, From: from, Bytes: blockOf(c, 1)})
			}
		}
	}
}

func TestFromWrong(t *testing.T) { // P18.1, R1, R5
	for _, c := range configs() {
		for _, from := range noFrom(most(c)) {
			for _, round := range edgeRounds {
				wantWrong(t, c, api.Emit{Seq: 5, Round: round, From: from, Bytes: blockOf(c, 1)})
			}
		}
	}
}

func TestBytesWrong(t *testing.T) { // P18.1, R1, R2: none, one fewer, one more, and far more; nil is as good as empty
	for _, c := range configs() {
		for _, n := range noBytes(c) {
			wantWrong(t, c, api.Emit{Bytes: text(n, 1)})
			wantWrong(t, c, api.Emit{Seq: 5, Round: 6, From: most(c), Bytes: make([]byte, n)})
		}
		wantWrong(t, c, api.Emit{})
		wantWrong(t, c, api.Emit{Bytes: blockOf(c, 1)[:0]})
		wantRight(t, c, api.Emit{Bytes: blockOf(c, 1)})
	}
}

func TestSeqAskedOfNothingElse(t *testing.T) { // P18.1: neither Seqs nor what the bytes say bounds Seq
	c := plain()
	for _, seqs := range []int{0, 1, 1000, api.MaxSeq} {
		c.Seqs = seqs
		for _, seq := range edgeSeqs {
			wantNew(t, c, seq, blockOf(c, 1))
			wantRight(t, c, api.Emit{Seq: seq, Bytes: blockOf(c, 1)})
		}
	}
}
