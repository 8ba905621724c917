package conf_test

import (
	"math"
	"math/big"
	"testing"

	"volute/api"
	"volute/block"
	"volute/code"
	"volute/conf"
)

func TestKnown(t *testing.T) { // P17.2: worked out by hand
	for _, k := range []struct{ bytes, passes, batch, segs, most, ticks, cycles0, cycles7 int }{
		{1, 4, 1, 22, 88, 88, 266, 2128},
		{1, 4, 16, 22, 88, 6, 20, 160},
		{1, 4, 11, 22, 88, 8, 26, 208},
		{4, 16, 64, 28, 448, 7, 23, 184},
		{4, 10, 9, 28, 280, 32, 98, 784},
		{4, 5, 64, 28, 140, 3, 11, 88},
		{6, 4, 64, 32, 128, 2, 8, 64},
		{7, 4, 64, 34, 136, 3, 11, 88},
		{16, 16, 1, 52, 832, 832, 2498, 19984},
		{16, 16, 64, 52, 832, 13, 41, 328},
	} {
		c := plain()
		c.Bytes, c.Passes, c.Batch = k.bytes, k.passes, k.batch
		got := [...]int{conf.Segs(c), conf.Most(c), conf.Ticks(c), conf.Cycles(c, 0), conf.Cycles(c, 7)}
		if want := [...]int{k.segs, k.most, k.ticks, k.cycles0, k.cycles7}; got != want {
			t.Errorf("%+v: %v, not %v", c, got, want)
		}
	}
}

func TestSegsMostTicks(t *testing.T) { // P17.2: over every right Bytes, Passes and Batch
	for c := range grid {
		segs := code.Segs(c.Bytes + 10)
		if got := conf.Segs(c); got != segs || got != 2*c.Bytes+20 {
			t.Fatalf("Segs(%+v) = %d, not %d", c, got, segs)
		}
		if got := conf.Most(c); got != segs*c.Passes {
			t.Fatalf("Most(%+v) = %d, not %d", c, got, segs*c.Passes)
		}
		if got, want := conf.Ticks(c), roundUp(segs*c.Passes, c.Batch); got != want {
			t.Fatalf("Ticks(%+v) = %d, not %d", c, got, want)
		}
	}
}

func TestTicksAreEnough(t *testing.T) { // P17.2: so many packets hold a round, one fewer do not
	for c := range grid {
		most, ticks := conf.Most(c), conf.Ticks(c)
		if ticks < 1 || ticks*c.Batch < most || (ticks-1)*c.Batch >= most {
			t.Fatalf("%+v: %d packets of a round of %d", c, ticks, most)
		}
	}
}

func TestSegsAreABlocks(t *testing.T) { // P17.2: a block's bytes have so many segments
	for size := 1; size <= api.MaxBlock; size++ {
		c := plain()
		c.Bytes = size
		b, e := block.Make(size, api.Block{Mark: api.Last})
		if got := conf.Segs(c); e != api.OK || got != code.Segs(len(b)) || got < 1 || got > api.MaxSegs {
			t.Errorf("Bytes %d: Segs %d, of a block of %d bytes, %d", size, got, len(b), e)
		}
	}
}

// blocksByText is the chapter's text.
func blocksByText(c api.Config, length int) int {
	switch {
	case length < 0 || length > 200:
		return 0
	case length == 0:
		return 1
	}
	return roundUp(length, c.Bytes)
}

func wantBlocks(t *testing.T, c api.Config, length, want int) {
	t.Helper()
	if got := conf.Blocks(c, length); got != want {
		t.Errorf("Blocks(%+v, %d) = %d, not %d", c, length, got, want)
	}
}

func TestBlocksKnown(t *testing.T) { // P17.2, P17.3: worked out by hand
	for bytes, wants := range map[int]map[int]int{
		1:  {-1: 0, 0: 1, 1: 1, 2: 2, 3: 3, 199: 199, 200: 200, 201: 0},
		3:  {-1: 0, 0: 1, 1: 1, 2: 1, 3: 1, 4: 2, 5: 2, 6: 2, 7: 3, 198: 66, 199: 67, 200: 67, 201: 0},
		4:  {-1: 0, 0: 1, 1: 1, 3: 1, 4: 1, 5: 2, 8: 2, 9: 3, 196: 49, 197: 50, 200: 50, 201: 0},
		16: {-1: 0, 0: 1, 1: 1, 15: 1, 16: 1, 17: 2, 32: 2, 33: 3, 192: 12, 193: 13, 200: 13, 201: 0, 208: 0},
	} {
		for length, want := range wants {
			c := plain()
			c.Bytes = bytes
			wantBlocks(t, c, length, want)
		}
	}
}

func TestBlocksEdges(t *testing.T) { // P17.2, R1, R5: the edges that hang on Bytes, written out
	for size := 1; size <= 16; size++ {
		c := plain()
		c.Bytes = size
		wantBlocks(t, c, math.MinInt, 0)
		wantBlocks(t, c, -1, 0)
		wantBlocks(t, c, 0, 1)
		wantBlocks(t, c, 1, 1)
		wantBlocks(t, c, size-1, 1)
		wantBlocks(t, c, size, 1)
		wantBlocks(t, c, size+1, 2)
		for k := 2; k*size+1 <= 200; k++ {
			wantBlocks(t, c, k*size-1, roundUp(k*size-1, size))
			wantBlocks(t, c, k*size, k)
			wantBlocks(t, c, k*size+1, k+1)
		}
		wantBlocks(t, c, 200, roundUp(200, size))
		wantBlocks(t, c, 201, 0)
		wantBlocks(t, c, math.MaxInt, 0)
	}
}

func TestBlocksAll(t *testing.T) { // P17.2, R1, R5: each length, of Configs of all kinds
	for _, c := range rights() {
		for _, length := range numbers() {
			wantBlocks(t, c, length, blocksByText(c, length))
		}
	}
}

func TestBlocksAskMaxMsg(t *testing.T) { // P17.2: MaxMsg is the bound, not the Config's Msg
	for _, msg := range []int{0, 1, 5, 30, 199, 200} {
		c := plain()
		c.Msg = msg
		for length := range 201 {
			wantBlocks(t, c, length, max(1, roundUp(length, 4)))
		}
		wantBlocks(t, c, 201, 0)
	}
}

func TestMessageHasBlocks(t *testing.T) { // P17.3: at least one; they hold the message, and one fewer do not
	for _, c := range rights() {
		for length := range api.MaxMsg + 1 {
			n := conf.Blocks(c, length)
			if n < 1 {
				t.Errorf("%+v: no block of a message of %d bytes", c, length)
			}
			if n*c.Bytes < length || length > 0 && (n-1)*c.Bytes >= length {
				t.Errorf("%+v: %d blocks of a message of %d bytes", c, n, length)
			}
		}
	}
}

// cyclesByText is the chapter's text, in numbers without bounds.
func cyclesByText(c api.Config, blocks int) int {
	if blocks < 0 || blocks > 2000 {
		return 0
	}
	each := big.NewInt(int64(3*roundUp((2*c.Bytes+20)*c.Passes, c.Batch) + 2))
	return int(each.Mul(each, big.NewInt(int64(blocks)+1)).Int64())
}

func wantCycles(t *testing.T, c api.Config, blocks, want int) {
	t.Helper()
	if got := conf.Cycles(c, blocks); got != want {
		t.Errorf("Cycles(%+v, %d) = %d, not %d", c, blocks, got, want)
	}
}

func TestCyclesEdges(t *testing.T) { // P17.2, R1, R5: Ticks are 32
	c := plain()
	wantCycles(t, c, math.MinInt, 0)
	wantCycles(t, c, -1, 0)
	wantCycles(t, c, 0, 98)
	wantCycles(t, c, 1, 196)
	wantCycles(t, c, 2, 294)
	wantCycles(t, c, api.MaxSteps-1, 196000)
	wantCycles(t, c, api.MaxSteps, 196098)
	wantCycles(t, c, api.MaxSteps+1, 0)
	wantCycles(t, c, math.MaxInt, 0)
	c.Bytes, c.Passes, c.Batch = 16, 16, 1
	wantCycles(t, c, api.MaxSteps, 4998498)
}

func TestCyclesAll(t *testing.T) { // P17.2, R1, R5: many numbers, of Configs of all kinds
	for _, c := range rights() {
		for _, blocks := range numbers() {
			wantCycles(t, c, blocks, cyclesByText(c, blocks))
		}
	}
}

func TestCyclesGrid(t *testing.T) { // P17.2: every right Bytes, Passes and Batch
	for c := range grid {
		for _, blocks := range []int{-1, 0, 1, 13, 2000, 2001} {
			if got, want := conf.Cycles(c, blocks), cyclesByText(c, blocks); got != want {
				t.Fatalf("Cycles(%+v, %d) = %d, not %d", c, blocks, got, want)
			}
		}
	}
}

func TestOtherFieldsAreNothing(t *testing.T) { // P17.2: of right Configs, Bytes, Passes and Batch alone matter
	for _, f := range fields() {
		if f.name == "Bytes" || f.name == "Passes" || f.name == "Batch" {
			continue
		}
		for _, x := range f.right() {
			c, d := f.with(x), plain()
			same := conf.Segs(c) == conf.Segs(d) && conf.Most(c) == conf.Most(d) && conf.Ticks(c) == conf.Ticks(d)
			for n := range 201 {
				same = same && conf.Blocks(c, n) == conf.Blocks(d, n) && conf.Cycles(c, n) == conf.Cycles(d, n)
			}
			if !same {
				t.Errorf("%s %d is asked", f.name, x)
			}
		}
	}
}
