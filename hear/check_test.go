package hear_test

import (
	"bytes"
	"encoding/binary"
	"hash/crc32"
	"slices"
	"testing"

	"volute/api"
	"volute/hear"
)

func wantNew(t *testing.T, c api.Config, seq int) {
	t.Helper()
	want := api.Hear{Seq: seq, Round: -1, Pile: api.Pile{N: segs(c), Passes: c.Passes}}
	h, e := hear.New(c, seq)
	if !same(h, want) || e != api.OK {
		t.Errorf("New(%+v, %d) = %v, %d", c, seq, h, e)
	}
	wantRight(t, c, h)
}

func wantNoNew(t *testing.T, c api.Config, seq int) {
	t.Helper()
	if h, e := hear.New(c, seq); !same(h, api.Hear{}) || e != api.ErrArg {
		t.Errorf("New(%+v, %d) = %v, %d", c, seq, h, e)
	}
}

// everyPlace is a pile of c with a symbol at each of its places.
func everyPlace(c api.Config) api.Pile {
	return pileOf(c, text(most(c), 3), span(0, most(c))...)
}

func TestExample(t *testing.T) { // example 1: ahead of any packet Round is -1
	h, e := hear.New(plain(), 3)
	if h.Round != -1 || h.Seq != 3 || h.Pile.N != 22 || h.Pile.Passes != 5 || len(h.Pile.Syms) != 0 || h.Done || len(h.Bytes) != 0 || e != api.OK {
		t.Error(h, e)
	}
}

func TestNew(t *testing.T) { // P19.1: Seq has no upper bound
	for _, c := range configs() {
		for _, seq := range slices.Concat(blockSeqs, farSeqs) {
			wantNew(t, c, seq)
		}
		for _, seq := range noSeq {
			wantNoNew(t, c, seq)
		}
	}
}

func TestNewOfEachSize(t *testing.T) { // P19.1: N and Passes are those of the Config at hand
	for size := 1; size <= api.MaxBlock; size++ {
		for passes := 4; passes <= api.MaxPasses; passes++ {
			wantNew(t, sized(size, passes, 2, 1), 5)
		}
	}
}

func TestConfigWrong(t *testing.T) { // the chapter's beginning, R4: whatever else is right or wrong
	right := plain()
	b := blockOf(t, right, 3, 1)
	for _, c := range wrongConfigs() {
		for _, seq := range []int{-1, 0, 3, api.MaxSeq} {
			wantNoNew(t, c, seq)
		}
		wantWrong(t, c, api.Hear{})
		wantWrong(t, c, newHear(t, right, 3))
		wantWrong(t, c, api.Hear{Seq: 3, Round: -1, Pile: api.Pile{N: segs(c), Passes: c.Passes}})
		wantWrong(t, c, done(right, 3, 4, b))
		wantWrong(t, c, api.Hear{Seq: -1, Round: 256, Done: true})
		wantNoTake(t, c, newHear(t, right, 3), api.Data{Seq: 4})
	}
}

func TestCheck(t *testing.T) { // P19.1: each edge beside each other one
	for _, c := range configs() {
		piles := []api.Pile{pileOf(c, nil), pileOf(c, text(most(c), 1), 0), pileOf(c, text(most(c), 2), 1, 7, most(c)-1), everyPlace(c)}
		for _, seq := range slices.Concat(blockSeqs, farSeqs) {
			wantRight(t, c, api.Hear{Seq: seq, Round: -1, Pile: piles[0]})
			for _, round := range edgeRounds {
				for _, p := range piles {
					wantRight(t, c, api.Hear{Seq: seq, Round: round, Pile: p})
				}
			}
		}
	}
}

func TestCheckDone(t *testing.T) { // P19.1: with Bytes of its Seq, each Mark and length of Text; nothing is said of its pile beside what holds for all
	for _, c := range configs() {
		for k, seq := range blockSeqs {
			b := blockOf(t, c, seq, k)
			wantRight(t, c, api.Hear{Seq: seq, Round: -1, Pile: pileOf(c, nil), Done: true, Bytes: b})
			for _, round := range edgeRounds {
				wantRight(t, c, done(c, seq, round, b))
				wantRight(t, c, api.Hear{Seq: seq, Round: round, Pile: everyPlace(c), Done: true, Bytes: b})
			}
			wantWrong(t, c, api.Hear{Seq: seq, Round: -1, Pile: everyPlace(c), Done: true, Bytes: b})
		}
	}
}

func TestSeqWrong(t *testing.T) { // P19.1, R1, R5
	for _, c := range configs() {
		for _, seq := range noSeq {
			wantWrong(t, c, api.Hear{Seq: seq, Round: -1, Pile: pileOf(c, nil)})
			wantWrong(t, c, api.Hear{Seq: seq, Round: 255, Pile: everyPlace(c)})
			wantWrong(t, c, done(c, seq, 0, blockOf(t, c, 0, 1)))
			wantWrong(t, c, api.Hear{Seq: seq})
		}
	}
}

func TestEachRound(t *testing.T) { // P19.1: from -1 to 255; symbols from 0 on alone
	c := plain()
	b := blockOf(t, c, 3, 1)
	for _, round := range append(span(-300, 600), noRound...) {
		for _, h := range []api.Hear{{Seq: 3, Round: round, Pile: pileOf(c, nil)}, done(c, 3, round, b)} {
			if round >= -1 && round <= 255 {
				wantRight(t, c, h)
			} else {
				wantWrong(t, c, h)
			}
		}
		for _, p := range []api.Pile{pileOf(c, text(1, 1), 0), everyPlace(c)} {
			h := api.Hear{Seq: 3, Round: round, Pile: p}
			if round >= 0 && round <= 255 {
				wantRight(t, c, h)
			} else {
				wantWrong(t, c, h)
			}
		}
	}
}

func TestNoPile(t *testing.T) { // P19.1: one that is none by chapter 9, whatever the Round is, Done or not
	for _, c := range []api.Config{plain(), sized(16, 16, 16, 3), sized(6, 4, 1, 2)} {
		b := blockOf(t, c, 3, 1)
		for _, l := range [][]api.Sym{
			{{At: -1}}, {{At: most(c)}}, {{At: 1 << 32}}, {{At: 0, Value: -1}}, {{At: 0, Value: 256}}, {{At: 1}, {At: 1}}, {{At: 2}, {At: 1}}, {{At: 0}, {At: most(c) - 1}, {At: most(c)}},
			append(everyPlace(c).Syms, api.Sym{At: most(c)}), append(everyPlace(c).Syms, api.Sym{At: most(c) - 1}),
		} {
			p := api.Pile{N: segs(c), Passes: c.Passes, Syms: l}
			for _, round := range []int{-1, 0, 7, 255} {
				wantWrong(t, c, api.Hear{Seq: 3, Round: round, Pile: p})
				wantWrong(t, c, api.Hear{Seq: 3, Round: round, Pile: p, Done: true, Bytes: b})
			}
		}
	}
}

func TestPileOfOther(t *testing.T) { // P19.1: right ones by chapter 9, and such that are none, of other numbers than the Config's
	for _, c := range []api.Config{plain(), sized(16, 16, 16, 3), sized(6, 4, 1, 2)} {
		b := blockOf(t, c, 3, 1)
		for _, x := range []api.Pile{
			{}, {N: segs(c)}, {Passes: c.Passes}, {N: c.Passes, Passes: segs(c)},
			{N: segs(c) - 1, Passes: c.Passes}, {N: segs(c) + 1, Passes: c.Passes}, {N: segs(c) - 2, Passes: c.Passes}, {N: segs(c) + 2, Passes: c.Passes}, {N: 1, Passes: c.Passes}, {N: api.MaxSegs, Passes: c.Passes}, {N: -segs(c), Passes: c.Passes}, {N: segs(c) + 1<<32, Passes: c.Passes},
			{N: segs(c), Passes: c.Passes - 1}, {N: segs(c), Passes: c.Passes + 1}, {N: segs(c), Passes: 1}, {N: segs(c), Passes: -c.Passes}, {N: segs(c), Passes: c.Passes + 1<<32},
		} {
			for _, round := range []int{-1, 0, 255} {
				wantWrong(t, c, api.Hear{Seq: 3, Round: round, Pile: x})
				wantWrong(t, c, api.Hear{Seq: 3, Round: round, Pile: x, Done: true, Bytes: b})
			}
		}
	}
	for size := 1; size <= api.MaxBlock; size++ { // of another Config's block
		for passes := 4; passes <= api.MaxPasses; passes++ {
			c := sized(size, passes, 2, 1)
			h := newHear(t, c, 3)
			for _, other := range []api.Config{sized(size%api.MaxBlock+1, passes, 2, 1), sized(size, 4+(passes-3)%13, 2, 1)} {
				wantWrong(t, other, h)
			}
		}
	}
}

func TestBytesWithoutDone(t *testing.T) { // P19.1: none, however few or right they are
	for _, c := range configs() {
		b := blockOf(t, c, 3, 1)
		for n := 1; n <= len(b); n++ {
			wantWrong(t, c, api.Hear{Seq: 3, Round: 4, Pile: pileOf(c, nil), Bytes: b[:n]})
		}
		wantWrong(t, c, api.Hear{Seq: 3, Round: -1, Pile: pileOf(c, nil), Bytes: b})
		wantRight(t, c, api.Hear{Seq: 3, Round: 4, Pile: pileOf(c, nil), Bytes: b[:0]})
	}
}

func TestDoneWithoutBytes(t *testing.T) { // P19.1: none, too few, too many
	for _, c := range configs() {
		for _, seq := range []int{0, 3} {
			b := blockOf(t, c, seq, 1)
			wantWrong(t, c, done(c, seq, 4, nil))
			wantWrong(t, c, done(c, seq, -1, nil))
			for n := range b {
				wantWrong(t, c, done(c, seq, 4, b[:n]))
			}
			wantWrong(t, c, done(c, seq, 4, append(slices.Clone(b), 0)))
			wantWrong(t, c, done(c, seq, 4, slices.Concat(b, b)))
			wantWrong(t, c, done(c, seq, 4, make([]byte, len(b))))
			wantWrong(t, c, done(c, seq, 4, make([]byte, api.MaxBytes+1)))
		}
	}
}

func TestDoneWithBytesOfOther(t *testing.T) { // P19.1: of another Seq, of another size
	for _, c := range configs() {
		for _, seq := range blockSeqs {
			b := blockOf(t, c, seq, 1)
			for _, other := range slices.Concat(blockSeqs, farSeqs, []int{seq + 1, seq + 1<<32, seq ^ 1<<8}) {
				if other != seq {
					wantWrong(t, c, done(c, other, 4, b))
				}
			}
		}
		other := c
		other.Bytes = c.Bytes%api.MaxBlock + 1
		wantWrong(t, c, done(c, 3, 4, blockOf(t, other, 3, 1)))
	}
}

func TestDoneWithBytesTurned(t *testing.T) { // P19.1: each bit
	for _, c := range []api.Config{plain(), sized(16, 16, 1, 1), sized(5, 4, 1, 1)} {
		for _, seq := range []int{0, 3, api.MaxSeq - 1} {
			b := blockOf(t, c, seq, 1)
			for i := range 8 * len(b) {
				b[i/8] ^= 1 << (i % 8)
				wantWrong(t, c, done(c, seq, 4, b))
				b[i/8] ^= 1 << (i % 8)
			}
			wantRight(t, c, done(c, seq, 4, b))
		}
	}
}

// sealed are these numbers and rest behind them, with their sum: the bytes of a right Block or not.
func sealed(seq uint32, mark, length byte, rest []byte) []byte {
	b := binary.BigEndian.AppendUint32(nil, seq)
	b = append(append(b, mark, length), rest...)
	return binary.LittleEndian.AppendUint32(bytes.Clone(b), crc32.ChecksumIEEE(b))
}

// noBlocks are bytes of 4 + 10, right in their sum, that are no right Block's.
func noBlocks(seq uint32) [][]byte {
	return [][]byte{
		sealed(seq, 4, 4, []byte("four")), sealed(seq, 255, 4, []byte("four")), sealed(seq, 3, 5, []byte("four")), sealed(seq, 3, 255, []byte("four")),
		sealed(seq, 1, 3, []byte("fou\x00")), sealed(seq, 0, 0, make([]byte, 4)), sealed(seq, 3, 3, []byte("four")), sealed(seq, 2, 0, []byte{0, 0, 0, 1}),
	}
}

func TestDoneWithBytesOfNoBlock(t *testing.T) { // P19.1: right in their sum
	c := sized(4, 5, 2, 1)
	for _, seq := range []int{0, 3} {
		for _, b := range noBlocks(uint32(seq)) {
			wantWrong(t, c, done(c, seq, 4, b))
		}
	}
	for _, seq := range farSeqs[:6] {
		wantWrong(t, c, done(c, seq, 4, sealed(uint32(seq), 3, 4, []byte("four"))))
	}
	wantRight(t, c, done(c, 3, 4, sealed(3, 3, 4, []byte("four"))))
	wantRight(t, c, done(c, 3, 4, sealed(3, 2, 0, make([]byte, 4))))
}

func TestSeqAskedOfNothingElse(t *testing.T) { // P19.1: Seqs does not bound Seq
	c := plain()
	for _, seqs := range []int{0, 1, 1000, api.MaxSeq} {
		c.Seqs = seqs
		for k, seq := range blockSeqs {
			wantNew(t, c, seq)
			wantRight(t, c, done(c, seq, 4, blockOf(t, c, seq, k)))
		}
	}
}
