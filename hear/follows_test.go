package hear_test

import (
	"bytes"
	"slices"
	"testing"

	"volute/api"
	"volute/conf"
	"volute/data"
	"volute/emit"
	"volute/hear"
)

// shuffled is list in another order.
func shuffled(list []api.Data, d *dice) []api.Data {
	list = slices.Clone(list)
	for i := range list {
		j := d.below(i + 1)
		list[i], list[j] = list[j], list[i]
	}
	return list
}

func TestOwnOrNone(t *testing.T) { // P19.3, T2: whatever is lost, doubled and mixed of a block's rounds, no other block is accepted
	told, none := 0, 0
	for seed := range 120 {
		d := dice(seed * 104729)
		c := sized(1+d.below(5), 4+d.below(4), 1+d.below(api.MaxBeam), 1+d.below(2))
		b := blockOf(t, c, seed, seed)
		list := packets(seed, 0, rowOf(t, c, b), 3+d.below(20))
		list = append(list, packets(seed, 1, rowOf(t, c, b), 3+d.below(20))...)
		list = shuffled(append(list, list...), &d)[:1+d.below(len(list))]
		if seed%2 == 0 { // so that rounds are not broken off all the time
			slices.SortStableFunc(list, func(x, y api.Data) int { return x.Round - y.Round })
		}
		h, at := takeAll(t, c, newHear(t, c, seed), list)
		switch {
		case at == -1 && !h.Done:
			none++
		case same(h, done(c, seed, list[at].Round, b)):
			told++
		default:
			t.Errorf("%+v: %v, not %x", c, h, b)
		}
	}
	if told < 20 || none < 20 {
		t.Error(told, none)
	}
}

func TestFourPasses(t *testing.T) { // P19.3, T5: in order and mixed, of every size, with every beam and depth
	batches := []int{1, 7, 22, 40, api.MaxBatch}
	for size := 1; size <= api.MaxBlock; size++ {
		for _, passes := range []int{4, 5, 9, api.MaxPasses} {
			k := size*17 + passes
			c := sized(size, passes, 1+k*5%api.MaxBeam, 1+k%2)
			if k%16 == 3 {
				c.Depth = api.MaxDepth
			}
			b := blockOf(t, c, k, k)
			list := packets(k, 5, rowOf(t, c, b)[:4*segs(c)], batches[1+k%4])
			d := dice(k)
			for _, order := range [][]api.Data{list, shuffled(list, &d)} {
				if h, _ := takeAll(t, c, newHear(t, c, k), order); !same(h, done(c, k, 5, b)) {
					t.Errorf("%+v: %v, not %x", c, h, b)
				}
			}
		}
	}
	for beam := 1; beam <= api.MaxBeam; beam++ {
		for depth := 1; depth <= api.MaxDepth; depth++ {
			c := sized(1, 4, beam, depth)
			b := blockOf(t, c, beam, depth)
			for _, batch := range batches[min(depth-1, 2):] { // those of few symbols take long with a great depth
				if h, _ := takeAll(t, c, newHear(t, c, beam), packets(beam, 0, rowOf(t, c, b), batch)); !same(h, done(c, beam, 0, b)) {
					t.Errorf("%+v: %v, not %x", c, h, b)
				}
			}
		}
	}
}

func TestFourPassesOfOneSymbolLate(t *testing.T) { // P19.3: all but one symbol of the four passes stand; that one comes last
	c := sized(1, 4, 1, 1)
	b := blockOf(t, c, 3, 1)
	row := rowOf(t, c, b)
	for late := range row {
		p := pileOf(c, row, slices.Concat(span(0, late), span(late+1, len(row)))...)
		h := api.Hear{Seq: 3, Round: 7, Pile: p}
		wantTake(t, c, h, api.Data{Seq: 3, Round: 7, From: late, Syms: row[late : late+1]}, done(c, 3, 7, b), true)
	}
}

func TestSentIsHeard(t *testing.T) { // P19.3, T5: what layer 18 sends, packet by packet, as layer 14 reads it
	for k, c := range configs() {
		b := blockOf(t, c, k, k)
		sent, e := emit.New(c, k, b)
		if e != api.OK {
			t.Fatal(c, e)
		}
		h := newHear(t, c, k)
		for tick := range conf.Ticks(c) {
			next, packet, e := emit.Tick(c, sent)
			d, f := data.Read(packet)
			if e != api.OK || f != api.OK {
				t.Fatal(c, tick, e, f)
			}
			heard, accepted, e := hear.Take(c, h, d)
			if e != api.OK || accepted != heard.Done {
				t.Fatal(c, tick, heard, accepted, e)
			}
			if sent, h = next, heard; accepted {
				break
			}
		}
		if !h.Done || !bytes.Equal(h.Bytes, b) || sent.From > 4*segs(c)+c.Batch-1 {
			t.Errorf("%+v: %v behind %d symbols", c, h, sent.From)
		}
	}
}

func TestFewBitsTurned(t *testing.T) { // P19.2: a few bits anywhere in a round, heard by a wide beam: the block, or none
	told := 0
	for seed := range 60 {
		d := dice(seed)
		c := sized(1+seed%3, 6, api.MaxBeam, 1)
		b := blockOf(t, c, seed, seed)
		row := rowOf(t, c, b)
		for range 1 + seed%4 {
			row[d.below(len(row))] ^= 1 << d.below(8)
		}
		h, at := takeAll(t, c, newHear(t, c, seed), packets(seed, 3, row, 13))
		if at != -1 {
			told++
			if !bytes.Equal(h.Bytes, b) {
				t.Errorf("%+v: %v, not %x", c, h, b)
			}
		}
	}
	if told < 30 {
		t.Error(told)
	}
}
