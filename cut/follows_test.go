package cut_test

import (
	"bytes"
	"testing"

	"volute/api"
	"volute/block"
	"volute/conf"
	"volute/cut"
)

// each calls f with the blocks of messages of each size and length, at the least and at the greatest number.
func each(t *testing.T, f func(c api.Config, msg []byte, blocks []api.Block)) {
	t.Helper()
	for size := 1; size <= api.MaxBlock; size++ {
		c := sized(size, api.MaxMsg)
		for n := range c.Msg + 1 {
			for _, seq := range []int{0, api.MaxSeq - conf.Blocks(c, n)} {
				msg := text(n, n+size)
				blocks, err := cut.Cut(c, seq, msg)
				if err != api.OK {
					t.Fatal(c, n, seq, err)
				}
				f(c, msg, blocks)
			}
		}
	}
}

func TestTextsAreTheMessage(t *testing.T) { // P20.2
	each(t, func(c api.Config, msg []byte, blocks []api.Block) {
		var all []byte
		for _, b := range blocks {
			all = append(all, b.Text...)
		}
		if !bytes.Equal(all, msg) {
			t.Errorf("%x of size %d came back as %x", msg, c.Bytes, all)
		}
	})
}

func TestAsManyAsTold(t *testing.T) { // P20.1: as many blocks as layer 17 tells
	each(t, func(c api.Config, msg []byte, blocks []api.Block) {
		if n := conf.Blocks(c, len(msg)); len(blocks) != n {
			t.Errorf("%d bytes of size %d have %d blocks, not %d", len(msg), c.Bytes, len(blocks), n)
		}
	})
}

func TestBlocksAreMade(t *testing.T) { // P20.1: each block may be made, and is read again
	each(t, func(c api.Config, msg []byte, blocks []api.Block) {
		for _, b := range blocks {
			made, err := block.Make(c.Bytes, b)
			if err != api.OK {
				t.Fatal(c.Bytes, b, err)
			}
			if again, err := block.Read(c.Bytes, made); !same(again, b) || err != api.OK {
				t.Error(c.Bytes, b, again, err)
			}
		}
	})
}
