package hear_test

import (
	"bytes"
	"math"
	"slices"
	"testing"

	"volute/api"
	"volute/block"
	"volute/code"
	"volute/hear"
)

// extra is how many bytes a block has beside those of its message.
const extra = 10

var (
	// Numbers that may be, whatever the Config is. A Hear's Seq has no upper bound; that of data and of a block has one.
	blockSeqs  = []int{0, 1, 255, 256, 1<<16 - 1, 1 << 16, 0x01020304, api.MaxSeq - 2, api.MaxSeq - 1}
	farSeqs    = []int{api.MaxSeq, api.MaxSeq + 1, api.MaxSeq + api.MaxWindow, 1<<31 - 1, 1 << 31, 1<<32 - 1, 1 << 32, 1<<32 + 1, 1 << 62, math.MaxInt - 1, math.MaxInt}
	edgeRounds = []int{0, 1, 127, 128, 254, 255}

	// Numbers that may not be, some of them ones that may be in their lowest bits.
	noSeq   = []int{-1, -2, -api.MaxSeq, -1 << 31, -1 << 32, 1 - 1<<32, -1 << 62, math.MinInt, math.MinInt + 1}
	noRound = []int{-2, -3, -255, -256, -257, 256, 257, 511, 512, 1 << 16, 1<<32 - 1, 1 << 32, 1<<32 + 1, -1 << 32, 1 - 1<<32, math.MaxInt, math.MaxInt - 1, math.MinInt, math.MinInt + 1}
)

// plain is a right Config: a block has 22 segments, a round 110 symbols.
func plain() api.Config {
	return api.Config{Bytes: 1, Beam: 4, Depth: 1, Window: 6, Qs: 7, Qr: 8, Batch: 9, Passes: 5, Msg: 30, Seqs: 1000}
}

// sized is plain with these numbers, on which alone a block that is heard hangs.
func sized(size, passes, beam, depth int) api.Config {
	c := plain()
	c.Bytes, c.Passes, c.Beam, c.Depth = size, passes, beam, depth
	return c
}

// segs and most are how many segments a block and how many symbols a round has, by chapter 17.
func segs(c api.Config) int { return 2*c.Bytes + 2*extra }
func most(c api.Config) int { return segs(c) * c.Passes }

// configs are right Configs: the edges of what a block that is heard hangs on, one beside the other, and those of the other fields.
func configs() []api.Config {
	list := []api.Config{
		plain(),
		{Bytes: 1, Beam: 1, Depth: 1, Window: 1, Qs: 1, Qr: 1, Batch: 1, Passes: 4},
		{Bytes: 16, Beam: 16, Depth: 3, Window: 16, Qs: 16, Qr: 16, Batch: 64, Passes: 16, Msg: 200, Seqs: api.MaxSeq},
	}
	for _, size := range []int{1, 2, 6, 15, 16} {
		for _, passes := range []int{4, 5, 15, 16} {
			for _, beam := range []int{1, 3, 16} {
				list = append(list, sized(size, passes, beam, 1))
			}
		}
	}
	return list
}

// wrongConfigs are plain with one field that may not be.
func wrongConfigs() []api.Config {
	list := []api.Config{{}}
	for _, x := range []struct {
		of             func(c *api.Config) *int
		below, greater int
	}{
		{func(c *api.Config) *int { return &c.Bytes }, 0, 17},
		{func(c *api.Config) *int { return &c.Beam }, 0, 17},
		{func(c *api.Config) *int { return &c.Depth }, 0, 4},
		{func(c *api.Config) *int { return &c.Window }, 0, 17},
		{func(c *api.Config) *int { return &c.Qs }, 0, 17},
		{func(c *api.Config) *int { return &c.Qr }, 0, 17},
		{func(c *api.Config) *int { return &c.Batch }, 0, 65},
		{func(c *api.Config) *int { return &c.Passes }, 3, 17},
		{func(c *api.Config) *int { return &c.Msg }, -1, 201},
		{func(c *api.Config) *int { return &c.Seqs }, -1, api.MaxSeq + 1},
	} {
		for _, wrong := range []int{x.below, x.greater, -1, math.MaxInt, math.MinInt, 1<<32 + 4} {
			c := plain()
			*x.of(&c) = wrong
			list = append(list, c)
		}
	}
	return list
}

// text is n bytes, others for each seed.
func text(n, seed int) []byte {
	b := make([]byte, n)
	x := uint32(seed)*2654435761 + 99
	for i := range b {
		x = x*1664525 + 1013904223
		b[i] = byte(x >> 16)
	}
	return b
}

// blockOf are the bytes of a block of c, of another Mark and Text for each seed; one with the mark Last may be short.
func blockOf(t *testing.T, c api.Config, seq, seed int) []byte {
	t.Helper()
	x := api.Block{Seq: seq, Mark: seed & 3, Text: text(c.Bytes, seed)}
	if x.Mark&api.Last != 0 {
		x.Text = x.Text[:seed*7%(c.Bytes+1)]
	}
	b, e := block.Make(c.Bytes, x)
	if e != api.OK {
		t.Fatal(c, seq, e)
	}
	return b
}

// rowOf are all symbols of a round, by layer 8.
func rowOf(t *testing.T, c api.Config, b []byte) []byte {
	t.Helper()
	row, e := code.Encode(b, 0, most(c))
	if e != api.OK {
		t.Fatal(c, b, e)
	}
	return row
}

// pileOf is a pile of c with the symbols of row at these places, which rise.
func pileOf(c api.Config, row []byte, places ...int) api.Pile {
	p := api.Pile{N: segs(c), Passes: c.Passes}
	for _, at := range places {
		p.Syms = append(p.Syms, api.Sym{At: at, Value: int(row[at])})
	}
	return p
}

// span is from, from + 1, .., below end.
func span(from, end int) []int {
	var l []int
	for at := from; at < end; at++ {
		l = append(l, at)
	}
	return l
}

func newHear(t *testing.T, c api.Config, seq int) api.Hear {
	t.Helper()
	h, e := hear.New(c, seq)
	if e != api.OK {
		t.Fatal(c, seq, e)
	}
	return h
}

func same(a, b api.Hear) bool {
	return a.Seq == b.Seq && a.Round == b.Round && a.Done == b.Done && bytes.Equal(a.Bytes, b.Bytes) &&
		a.Pile.N == b.Pile.N && a.Pile.Passes == b.Pile.Passes && slices.Equal(a.Pile.Syms, b.Pile.Syms)
}

func wantRight(t *testing.T, c api.Config, h api.Hear) {
	t.Helper()
	if e := hear.Check(c, h); e != api.OK {
		t.Errorf("Check(%+v, %v) = %d", c, h, e)
	}
}

// wantWrong asks Check, and Take with data that may be made, about a Hear that is not right, or whose Config is not.
func wantWrong(t *testing.T, c api.Config, h api.Hear) {
	t.Helper()
	if e := hear.Check(c, h); e != api.ErrArg {
		t.Errorf("Check(%+v, %v) = %d", c, h, e)
	}
	for _, round := range []int{0, h.Round} {
		wantNoTake(t, c, h, api.Data{Seq: h.Seq, Round: round, Syms: []byte{1, 2}})
	}
}

func wantNoTake(t *testing.T, c api.Config, h api.Hear, d api.Data) {
	t.Helper()
	if next, accepted, e := hear.Take(c, h, d); !same(next, api.Hear{}) || accepted || e != api.ErrArg {
		t.Errorf("Take(%+v, %v, %v) = %v, %t, %d", c, h, d, next, accepted, e)
	}
}

// wantTake asks Take, holds what it answers to be right, and hands it on.
func wantTake(t *testing.T, c api.Config, h api.Hear, d api.Data, want api.Hear, wantAccepted bool) api.Hear {
	t.Helper()
	next, accepted, e := hear.Take(c, h, d)
	if !same(next, want) || accepted != wantAccepted || e != api.OK {
		t.Fatalf("Take(%+v, %v, %v) = %v, %t, %d, not %v, %t", c, h, d, next, accepted, e, want, wantAccepted)
	}
	wantRight(t, c, next)
	return next
}

// done is what a Hear of the block b is behind the packet that told it.
func done(c api.Config, seq, round int, b []byte) api.Hear {
	return api.Hear{Seq: seq, Round: round, Pile: pileOf(c, nil), Done: true, Bytes: b}
}
