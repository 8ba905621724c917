package join_test

import (
	"bytes"
	"slices"
	"testing"

	"volute/api"
	"volute/conf"
	"volute/cut"
	"volute/join"
)

// sized is a right Config with these numbers, on which alone a message's blocks hang.
func sized(size, msg int) api.Config {
	return api.Config{Bytes: size, Beam: 5, Depth: 2, Window: 6, Qs: 7, Qr: 8, Batch: 9, Passes: 10, Msg: msg, Seqs: 1000}
}

func cutAll(t *testing.T, c api.Config, msgs ...[]byte) []api.Block {
	t.Helper()
	var all []api.Block
	for _, msg := range msgs {
		blocks, e := cut.Cut(c, len(all), msg)
		if e != api.OK {
			t.Fatal(c, len(msg), e)
		}
		all = append(all, blocks...)
	}
	return all
}

// run takes the blocks, one behind the other, from j on: the messages that were done, and what is open behind them.
func run(t *testing.T, j api.Join, blocks []api.Block) (msgs [][]byte, behind api.Join) {
	t.Helper()
	for _, b := range blocks {
		ends := join.Ends(j, b)
		got := take(j, b)
		if got.e != api.OK || got.done != ends {
			t.Fatal(b, got, ends)
		}
		if got.done {
			msgs = append(msgs, got.msg)
		}
		j = got.next
	}
	return msgs, j
}

// wantMsgs holds the blocks to the messages, with nothing open behind them.
func wantMsgs(t *testing.T, j api.Join, blocks []api.Block, want ...[]byte) {
	t.Helper()
	msgs, behind := run(t, j, blocks)
	if !slices.EqualFunc(msgs, want, bytes.Equal) || behind.Open || len(behind.Text) != 0 {
		t.Errorf("%v: %x, not %x; open behind them: %v", blocks, msgs, want, behind)
	}
}

func TestEachMessage(t *testing.T) { // P21.3: each size, each length that a message may have; done with its last block, and not ahead of it
	for size := 1; size <= api.MaxBlock; size++ {
		c := sized(size, api.MaxMsg)
		for n := range api.MaxMsg + 1 {
			msg := text(n, n+size)
			blocks := cutAll(t, c, msg)
			wantMsgs(t, api.Join{}, blocks, msg)
			msgs, behind := run(t, api.Join{}, blocks[:len(blocks)-1])
			isBegun := len(blocks) > 1
			if len(msgs) != 0 || behind.Open != isBegun || !bytes.Equal(behind.Text, msg[:(len(blocks)-1)*size]) {
				t.Error(size, n, msgs, behind)
			}
		}
	}
}

func TestOneBehindTheOther(t *testing.T) { // P21.3: messages of one block, of two, of three, of Msg bytes, empty ones between
	for size := 1; size <= api.MaxBlock; size++ {
		c := sized(size, api.MaxMsg)
		var msgs [][]byte
		for i, n := range []int{0, 1, size, size + 1, 2 * size, 0, 0, 2*size + 1, 3 * size, c.Msg, 1, c.Msg, c.Msg - 1, 0} {
			msgs = append(msgs, text(n, i))
		}
		wantMsgs(t, api.Join{}, cutAll(t, c, msgs...), msgs...)
	}
}

func TestWhateverWasOpen(t *testing.T) { // P21.3: a message is put together, whatever is open ahead of it
	for size := 1; size <= api.MaxBlock; size++ {
		for _, n := range []int{0, 1, size, size + 1, 2 * size, 3 * size, api.MaxMsg} {
			msg := text(n, 3)
			blocks := cutAll(t, sized(size, api.MaxMsg), msg)
			for _, held := range []int{0, 1, 200, api.MaxBytes - 1, api.MaxBytes} {
				wantMsgs(t, open(held), blocks, msg)
			}
		}
	}
}

func TestBeginningMissed(t *testing.T) { // P21.3 beside P21.2: of a message whose first block is missing nothing is told; those ahead of it and behind it are
	c := sized(4, 30)
	a, b, d := text(9, 1), text(30, 2), text(5, 3)
	blocks := cutAll(t, c, a, b, d)
	at := conf.Blocks(c, len(a))
	for gone := 1; gone < conf.Blocks(c, len(b)); gone++ {
		wantMsgs(t, api.Join{}, slices.Concat(blocks[:at], blocks[at+gone:]), a, d)
	}
}

func TestBrokenOff(t *testing.T) { // P21.3 beside P21.2: of a message whose last block is missing nothing is told; those ahead of it and behind it are
	c := sized(4, 30)
	a, b, d := text(9, 1), text(30, 2), text(5, 3)
	blocks := cutAll(t, c, a, b, d)
	end := conf.Blocks(c, len(a)) + conf.Blocks(c, len(b))
	for gone := 1; gone < conf.Blocks(c, len(b)); gone++ {
		wantMsgs(t, api.Join{}, slices.Concat(blocks[:end-gone], blocks[end:]), a, d)
	}
}

func TestUpToTheGreatest(t *testing.T) { // P21.2: blocks without an end, up to MaxBytes; behind that one that is refused leaves what there was to be ended
	j := take(api.Join{}, part(api.First, api.MaxBlock)).next
	for n := 2 * api.MaxBlock; n <= api.MaxBytes; n += api.MaxBlock {
		got := take(j, part(0, api.MaxBlock))
		if !got.same(answer{next: api.Join{Open: true, Text: bytes.Repeat(text(api.MaxBlock, 2), n/api.MaxBlock)}}) {
			t.Fatal(n, got)
		}
		j = got.next
	}
	wantNone(t, j, part(0, 1), api.ErrLen)
	wantNone(t, j, part(api.Last, 1), api.ErrLen)
	wantDone(t, j, part(api.Last, 0), string(bytes.Repeat(text(api.MaxBlock, 2), api.MaxBytes/api.MaxBlock)))
}
