package emit_test

import (
	"bytes"
	"math"
	"slices"
	"testing"

	"volute/api"
	"volute/code"
	"volute/emit"
)

// extra is how many bytes a block has beside those of its message.
const extra = 10

var (
	// Numbers that may be, whatever the Config is.
	edgeSeqs   = []int{0, 1, 255, 256, 1<<16 - 1, 1 << 16, 0x01020304, api.MaxSeq - 2, api.MaxSeq - 1}
	edgeRounds = []int{0, 1, 127, 128, 254, 255}

	// Numbers that may not be, some of them ones that may be in their lowest bits.
	noSeq   = []int{-1, -2, -api.MaxSeq, api.MaxSeq, api.MaxSeq + 1, 1<<31 - 1, 1 << 31, 1<<32 - 1, 1 << 32, 1<<32 + 1, -1 << 32, 1 - 1<<32, 1 << 62, math.MaxInt, math.MaxInt - 1, math.MinInt, math.MinInt + 1}
	noRound = []int{-1, -2, -255, -256, 256, 257, 511, 512, 1 << 16, 1 << 32, 1<<32 + 1, -1 << 32, 1 - 1<<32, math.MaxInt, math.MaxInt - 1, math.MinInt, math.MinInt + 1}
)

// noFrom are places that may not be in a round of most symbols.
func noFrom(most int) []int {
	return []int{-1, -2, -most, most + 1, most + 2, 2 * most, 65535, 65536, 1 << 32, 1<<32 + 1, 1<<32 + most, -1 << 32, 1 - 1<<32, math.MaxInt, math.MaxInt - 1, math.MinInt, math.MinInt + 1, math.MinInt + most}
}

// edgeFroms are places that may be: the edges, those beside them, the edges of packets, and some between these.
func edgeFroms(c api.Config) []int {
	n := most(c)
	list := []int{0, 1, 2, c.Batch - 1, c.Batch, c.Batch + 1, n / 2, n/2 + 1, n - c.Batch - 1, n - c.Batch, n - c.Batch + 1, n - 2, n - 1, n}
	list = slices.DeleteFunc(list, func(from int) bool { return from < 0 || from > n })
	slices.Sort(list)
	return slices.Compact(list)
}

// noBytes are lengths that Bytes may not have.
func noBytes(c api.Config) []int {
	n := c.Bytes + extra
	return []int{0, 1, c.Bytes, extra, n - 2, n - 1, n + 1, n + 2, 2 * n, 256 + n, api.MaxBytes, api.MaxBytes + 1, 1<<16 + n}
}

// plain is a right Config: a block has 28 segments, a round 280 symbols, and its last packet one.
func plain() api.Config {
	return api.Config{Bytes: 4, Beam: 5, Depth: 2, Window: 6, Qs: 7, Qr: 8, Batch: 9, Passes: 10, Msg: 30, Seqs: 1000}
}

// sized is plain with these numbers, on which alone a block that is sent hangs.
func sized(size, passes, batch int) api.Config {
	c := plain()
	c.Bytes, c.Passes, c.Batch = size, passes, batch
	return c
}

// most is how many symbols a round has, by chapter 17.
func most(c api.Config) int { return (2*c.Bytes + 20) * c.Passes }

// configs are right Configs: the edges of what a block that is sent hangs on, one beside the other, and those of the other fields.
func configs() []api.Config {
	list := []api.Config{
		plain(),
		{Bytes: 1, Beam: 1, Depth: 1, Window: 1, Qs: 1, Qr: 1, Batch: 1, Passes: 4},
		{Bytes: 16, Beam: 16, Depth: 3, Window: 16, Qs: 16, Qr: 16, Batch: 64, Passes: 16, Msg: 200, Seqs: api.MaxSeq},
	}
	for _, size := range []int{1, 2, 6, 15, 16} {
		for _, passes := range []int{4, 5, 15, 16} {
			for _, batch := range []int{1, 2, 7, 16, 63, 64} {
				list = append(list, sized(size, passes, batch))
			}
		}
	}
	return list
}

// wrongConfigs are plain with one field that may not be.
func wrongConfigs() []api.Config {
	list := []api.Config{{}}
	for _, x := range []struct {
		of             func(c *api.Config) *int
		below, greater int
	}{
		{func(c *api.Config) *int { return &c.Bytes }, 0, 17},
		{func(c *api.Config) *int { return &c.Beam }, 0, 17},
		{func(c *api.Config) *int { return &c.Depth }, 0, 4},
		{func(c *api.Config) *int { return &c.Window }, 0, 17},
		{func(c *api.Config) *int { return &c.Qs }, 0, 17},
		{func(c *api.Config) *int { return &c.Qr }, 0, 17},
		{func(c *api.Config) *int { return &c.Batch }, 0, 65},
		{func(c *api.Config) *int { return &c.Passes }, 3, 17},
		{func(c *api.Config) *int { return &c.Msg }, -1, 201},
		{func(c *api.Config) *int { return &c.Seqs }, -1, api.MaxSeq + 1},
	} {
		for _, wrong := range []int{x.below, x.greater, -1, math.MaxInt, math.MinInt, 1<<32 + 4} {
			c := plain()
			*x.of(&c) = wrong
			list = append(list, c)
		}
	}
	return list
}

// text is n bytes, others for each seed.
func text(n, seed int) []byte {
	b := make([]byte, n)
	for i := range b {
		b[i] = byte(i*151 + seed*29 + i*i>>1)
	}
	return b
}

// blockOf is as many bytes as a block of c has.
func blockOf(c api.Config, seed int) []byte { return text(c.Bytes+extra, seed) }

// rowOf are all symbols of a round, by layer 8.
func rowOf(t *testing.T, c api.Config, b []byte) []byte {
	t.Helper()
	row, err := code.Encode(b, 0, most(c))
	if err != api.OK {
		t.Fatal(c, b, err)
	}
	return row
}

func same(a, b api.Emit) bool {
	return a.Seq == b.Seq && a.Round == b.Round && a.From == b.From && a.Acked == b.Acked && bytes.Equal(a.Bytes, b.Bytes)
}

func wantNew(t *testing.T, c api.Config, seq int, b []byte) {
	t.Helper()
	want := api.Emit{Seq: seq, Bytes: b}
	if got, err := emit.New(c, seq, b); !same(got, want) || err != api.OK {
		t.Errorf("New(%+v, %d, %x) = %v, %d", c, seq, b, got, err)
	}
}

func wantNoNew(t *testing.T, c api.Config, seq int, b []byte) {
	t.Helper()
	if got, err := emit.New(c, seq, b); !same(got, api.Emit{}) || err != api.ErrArg {
		t.Errorf("New(%+v, %d, of %d bytes) = %v, %d", c, seq, len(b), got, err)
	}
}

func wantRight(t *testing.T, c api.Config, e api.Emit) {
	t.Helper()
	if err := emit.Check(c, e); err != api.OK {
		t.Errorf("Check(%+v, %v) = %d", c, e, err)
	}
}

// wantWrong asks Check and Tick about an Emit that is not right, or whose Config is not.
func wantWrong(t *testing.T, c api.Config, e api.Emit) {
	t.Helper()
	for _, acked := range []bool{false, true} {
		e.Acked = acked
		if err := emit.Check(c, e); err != api.ErrArg {
			t.Errorf("Check(%+v, %v) = %d", c, e, err)
		}
		if next, packet, err := emit.Tick(c, e); !same(next, api.Emit{}) || len(packet) != 0 || err != api.ErrArg {
			t.Errorf("Tick(%+v, %v) = %v, %x, %d", c, e, next, packet, err)
		}
	}
}

func wantTick(t *testing.T, c api.Config, e, want api.Emit, packet []byte) {
	t.Helper()
	if got, p, err := emit.Tick(c, e); !same(got, want) || !bytes.Equal(p, packet) || err != api.OK {
		t.Errorf("Tick(%+v, %v) = %v, %x, %d, not %v, %x", c, e, got, p, err, want, packet)
	}
}
