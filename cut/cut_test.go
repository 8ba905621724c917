package cut_test

import (
	"bytes"
	"math"
	"slices"
	"testing"

	"volute/api"
	"volute/cut"
)

var (
	// Lengths that Msg may have: its edges, those beside them, and some between.
	edgeMsgs = []int{0, 1, 2, 15, 16, 17, 30, 99, 199, 200}

	// Numbers that may not be a block's, some of them ones that may be in their lowest bits.
	noSeq = []int{-1, -2, -api.MaxSeq, api.MaxSeq, api.MaxSeq + 1, 1<<31 - 1, 1 << 31, 1<<32 - 1, 1 << 32, 1<<32 + 1, -1 << 32, 1 - 1<<32, 1 << 62, math.MaxInt, math.MaxInt - 1, math.MaxInt - 200, math.MinInt, math.MinInt + 1, math.MinInt + 200}
)

// plain is a right Config: a message has at most eight blocks.
func plain() api.Config {
	return api.Config{Bytes: 4, Beam: 5, Depth: 2, Window: 6, Qs: 7, Qr: 8, Batch: 9, Passes: 10, Msg: 30, Seqs: 1000}
}

// sized is plain with these numbers, on which alone the blocks hang.
func sized(size, msg int) api.Config {
	c := plain()
	c.Bytes, c.Msg = size, msg
	return c
}

// others are Configs with the Bytes and the Msg of plain: the other fields at their edges.
func others() []api.Config {
	c := plain()
	return []api.Config{
		{Bytes: c.Bytes, Beam: 1, Depth: 1, Window: 1, Qs: 1, Qr: 1, Batch: 1, Passes: 4, Msg: c.Msg},
		{Bytes: c.Bytes, Beam: 1, Depth: 1, Window: 1, Qs: 1, Qr: 1, Batch: 1, Passes: 4, Msg: c.Msg, Seqs: 1},
		{Bytes: c.Bytes, Beam: 16, Depth: 3, Window: 16, Qs: 16, Qr: 16, Batch: 64, Passes: 16, Msg: c.Msg, Seqs: api.MaxSeq},
	}
}

// wrongConfigs are plain with one field that may not be.
func wrongConfigs() []api.Config {
	list := []api.Config{{}}
	for _, x := range []struct {
		of             func(c *api.Config) *int
		below, greater int
	}{
		{func(c *api.Config) *int { return &c.Bytes }, 0, 17},
		{func(c *api.Config) *int { return &c.Beam }, 0, 17},
		{func(c *api.Config) *int { return &c.Depth }, 0, 4},
		{func(c *api.Config) *int { return &c.Window }, 0, 17},
		{func(c *api.Config) *int { return &c.Qs }, 0, 17},
		{func(c *api.Config) *int { return &c.Qr }, 0, 17},
		{func(c *api.Config) *int { return &c.Batch }, 0, 65},
		{func(c *api.Config) *int { return &c.Passes }, 3, 17},
		{func(c *api.Config) *int { return &c.Msg }, -1, 201},
		{func(c *api.Config) *int { return &c.Seqs }, -1, api.MaxSeq + 1},
	} {
		for _, wrong := range []int{x.below, x.greater, -1, math.MaxInt, math.MinInt, 1<<32 + 4} {
			c := plain()
			*x.of(&c) = wrong
			list = append(list, c)
		}
	}
	return list
}

// text is n bytes, others for each seed; no two that are beside each other are the same.
func text(n, seed int) []byte {
	b := make([]byte, n)
	for i := range b {
		b[i] = byte(i*151 + seed*29 + i>>4)
	}
	return b
}

// lengths are the edges of a message's length: those of blocks, and those of Msg.
func lengths(c api.Config) []int {
	list := []int{0, 1, 2, c.Msg - 1, c.Msg}
	for _, whole := range []int{1, 2, 3, 4, 7, c.Msg / c.Bytes} {
		list = append(list, whole*c.Bytes-1, whole*c.Bytes, whole*c.Bytes+1)
	}
	list = slices.DeleteFunc(list, func(n int) bool { return n < 0 || n > c.Msg })
	slices.Sort(list)
	return slices.Compact(list)
}

// byText is msg in blocks as the chapter says it: a block is begun for each byte that the one ahead of it has no room for.
func byText(c api.Config, seq int, msg []byte) []api.Block {
	list := []api.Block{{Seq: seq, Mark: api.First}}
	for _, x := range msg {
		if len(list[len(list)-1].Text) == c.Bytes {
			list = append(list, api.Block{Seq: seq + len(list)})
		}
		b := &list[len(list)-1]
		b.Text = append(b.Text, x)
	}
	list[len(list)-1].Mark += api.Last
	return list
}

// count is how many blocks a message of n bytes has.
func count(c api.Config, n int) int { return len(byText(c, 0, make([]byte, n))) }

func same(a, b api.Block) bool {
	return a.Seq == b.Seq && a.Mark == b.Mark && bytes.Equal(a.Text, b.Text)
}

func wantBlocks(t *testing.T, c api.Config, seq int, msg []byte, want []api.Block) {
	t.Helper()
	if got, err := cut.Cut(c, seq, msg); !slices.EqualFunc(got, want, same) || err != api.OK {
		t.Errorf("Cut(%+v, %d, %x) = %v, %d, not %v", c, seq, msg, got, err, want)
	}
}

func wantCut(t *testing.T, c api.Config, seq int, msg []byte) {
	t.Helper()
	wantBlocks(t, c, seq, msg, byText(c, seq, msg))
}

func wantNone(t *testing.T, c api.Config, seq int, msg []byte, want api.Errno) {
	t.Helper()
	if got, err := cut.Cut(c, seq, msg); len(got) != 0 || err != want {
		t.Errorf("Cut(%+v, %d, of %d bytes) = %v, %d, not %d", c, seq, len(msg), got, err, want)
	}
}
