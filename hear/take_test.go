package hear_test

import (
	"bytes"
	"maps"
	"math"
	"slices"
	"testing"

	"volute/api"
	"volute/beam"
	"volute/bit"
	"volute/block"
	"volute/hear"
)

// byText is chapter 19's text of Take, of a Hear that is right and data that may be made and are of its Seq.
func byText(t *testing.T, c api.Config, h api.Hear, d api.Data) (next api.Hear, accepted bool) {
	t.Helper()
	if h.Done {
		return h, false
	}
	heard := map[int]int{}
	if d.Round == h.Round {
		for _, s := range h.Pile.Syms {
			heard[s.At] = s.Value
		}
	}
	before := len(heard)
	for i, value := range d.Syms {
		if _, stands := heard[d.From+i]; !stands && d.From+i < most(c) {
			heard[d.From+i] = int(value)
		}
	}
	next = api.Hear{Seq: h.Seq, Round: d.Round, Pile: pileOf(c, nil)}
	for _, at := range slices.Sorted(maps.Keys(heard)) {
		next.Pile.Syms = append(next.Pile.Syms, api.Sym{At: at, Value: heard[at]})
	}
	if len(heard) == before {
		return next, false
	}
	path, _, e := beam.Decode(next.Pile, c.Beam, c.Depth)
	if e != api.OK {
		return next, false
	}
	b, e := bit.Join(path)
	if e != api.OK {
		t.Fatal(path, e)
	}
	if x, e := block.Read(c.Bytes, b); e != api.OK || x.Seq != h.Seq {
		return next, false
	}
	return done(c, h.Seq, d.Round, b), true
}

// packets are what a round of row is sent as, in batches.
func packets(seq, round int, row []byte, batch int) []api.Data {
	var list []api.Data
	for from := 0; from < len(row); from += batch {
		list = append(list, api.Data{Seq: seq, Round: round, From: from, Syms: row[from:min(from+batch, len(row))]})
	}
	return list
}

// takeAll takes these packets one by one, up to the one that is accepted, and answers which one that is: -1, if none is.
func takeAll(t *testing.T, c api.Config, h api.Hear, list []api.Data) (next api.Hear, at int) {
	t.Helper()
	for i, d := range list {
		next, accepted, e := hear.Take(c, h, d)
		if accepted != next.Done || e != api.OK {
			t.Fatalf("Take(%+v, %v, %v) = %v, %t, %d", c, h, d, next, accepted, e)
		}
		wantRight(t, c, next)
		if h = next; accepted {
			return h, i
		}
	}
	return h, -1
}

func TestTakeFirst(t *testing.T) { // P19.2: of a new one; each edge of Round, from places at the beginning, at the end of a round and beyond it
	for _, c := range []api.Config{plain(), sized(16, 16, 1, 1), sized(6, 4, 3, 1)} {
		n := most(c)
		for _, seq := range blockSeqs {
			h := newHear(t, c, seq)
			for _, round := range edgeRounds {
				for _, from := range []int{0, 1, segs(c) - 1, segs(c), n - 5, n - 4, n - 1, n, n + 1, 2 * n, 65534, 65535} {
					d := api.Data{Seq: seq, Round: round, From: from, Syms: []byte{9, 0, 255, 128}}
					want := api.Hear{Seq: seq, Round: round, Pile: pileOf(c, nil)}
					for i, value := range d.Syms {
						if from+i < n {
							want.Pile.Syms = append(want.Pile.Syms, api.Sym{At: from + i, Value: int(value)})
						}
					}
					wantTake(t, c, h, d, want, false)
				}
			}
		}
	}
}

func TestTakeAtEachPlace(t *testing.T) { // P19.2: one symbol, and as many as may be, at each place of a round and beyond it
	c := plain()
	h := newHear(t, c, 3)
	values := text(api.MaxBatch, 1)
	for from := range most(c) + 2*api.MaxBatch {
		for _, count := range []int{1, api.MaxBatch} {
			d := api.Data{Seq: 3, Round: 4, From: from, Syms: values[:count]}
			next, accepted := byText(t, c, h, d)
			if want := max(0, min(count, most(c)-from)); len(next.Pile.Syms) != want || accepted {
				t.Fatal(from, count, next, accepted)
			}
			wantTake(t, c, h, d, next, false)
		}
	}
}

func TestTakeEachValueAndRound(t *testing.T) { // P19.2
	c := plain()
	h := newHear(t, c, 3)
	for x := range 256 {
		want := api.Hear{Seq: 3, Round: x, Pile: pileOf(c, nil)}
		want.Pile.Syms = []api.Sym{{At: 5, Value: x}, {At: 6, Value: 255 - x}}
		h = wantTake(t, c, h, api.Data{Seq: 3, Round: x, From: 5, Syms: []byte{byte(x), byte(255 - x)}}, want, false)
	}
}

func TestDataWrong(t *testing.T) { // P19.2, R1, R4, R5: each wrong alone, and beside others; ErrArg for each, the number of symbols too
	c := plain()
	b := blockOf(t, c, 3, 1)
	some := []byte{1, 2, 3}
	for _, h := range []api.Hear{newHear(t, c, 3), {Seq: 3, Round: 4, Pile: everyPlace(c)}, done(c, 3, 4, b), done(c, 3, -1, b)} {
		wrong := func(d api.Data) {
			t.Helper()
			wantNoTake(t, c, h, d)
		}
		for _, l := range [][]byte{nil, {}, make([]byte, 65), make([]byte, 66), make([]byte, 256), make([]byte, 257), make([]byte, api.MaxBytes+1)} {
			wrong(api.Data{Seq: 3, Round: 4, Syms: l})
			wrong(api.Data{Seq: 4, Round: -1, From: -1, Syms: l})
		}
		for _, round := range append(slices.Clone(noRound), -1) {
			wrong(api.Data{Seq: 3, Round: round, Syms: some})
		}
		for _, from := range []int{-1, -2, -3, -65536, 65536, 65537, 1 << 32, 1<<32 + 1, -1 << 32, 1 - 1<<32, math.MaxInt, math.MaxInt - 1, math.MinInt, math.MinInt + 1} {
			wrong(api.Data{Seq: 3, Round: 4, From: from, Syms: some})
			wrong(api.Data{Seq: 3, Round: 5, From: from, Syms: some})
		}
		for _, seq := range slices.Concat(blockSeqs, farSeqs, noSeq, []int{2, 4, 3 + 1<<32, 3 - 1<<32}) {
			wrong(api.Data{Seq: seq, Round: 4, Syms: some})
		}
	}
}

func TestNoDataOfFarSeqs(t *testing.T) { // P19.2: such a Hear is right, but no data of its Seq may be made
	c := plain()
	for _, seq := range farSeqs {
		h := newHear(t, c, seq)
		for _, other := range []int{seq, 0, api.MaxSeq - 1, seq % api.MaxSeq} {
			wantNoTake(t, c, h, api.Data{Seq: other, Syms: []byte{1}})
		}
	}
}

func TestTakeTwice(t *testing.T) { // P19.2: the same once more is not fresh; other values at those places neither: the first stay
	c := plain()
	for _, from := range []int{0, 30, most(c) - 4} {
		d := api.Data{Seq: 3, Round: 4, From: from, Syms: []byte{10, 20, 30, 40}}
		want := api.Hear{Seq: 3, Round: 4, Pile: pileOf(c, nil)}
		for i, value := range d.Syms {
			want.Pile.Syms = append(want.Pile.Syms, api.Sym{At: from + i, Value: int(value)})
		}
		h := wantTake(t, c, newHear(t, c, 3), d, want, false)
		h = wantTake(t, c, h, d, want, false)
		h = wantTake(t, c, h, api.Data{Seq: 3, Round: 4, From: from, Syms: []byte{40, 30, 20, 10}}, want, false)
		h = wantTake(t, c, h, api.Data{Seq: 3, Round: 4, From: from + 1, Syms: []byte{0, 0}}, want, false)
		wantTake(t, c, h, api.Data{Seq: 3, Round: 4, From: most(c), Syms: []byte{1, 2}}, want, false)
	}
}

func TestTakePartlyFresh(t *testing.T) { // P19.2: symbols between, ahead of and behind those that stand; the ones behind a place that stands, too
	c := plain()
	h := api.Hear{Seq: 3, Round: 4, Pile: pileOf(c, nil)}
	h.Pile.Syms = []api.Sym{{At: 11, Value: 1}, {At: 12, Value: 2}, {At: 15, Value: 3}, {At: 109, Value: 4}}
	want := h
	want.Pile.Syms = []api.Sym{{At: 10, Value: 100}, {At: 11, Value: 1}, {At: 12, Value: 2}, {At: 13, Value: 103}, {At: 14, Value: 104}, {At: 15, Value: 3}, {At: 16, Value: 106}, {At: 109, Value: 4}}
	h = wantTake(t, c, h, api.Data{Seq: 3, Round: 4, From: 10, Syms: []byte{100, 101, 102, 103, 104, 105, 106}}, want, false)
	want.Pile.Syms = slices.Insert(slices.Clone(want.Pile.Syms), 7, api.Sym{At: 108, Value: 108})
	wantTake(t, c, h, api.Data{Seq: 3, Round: 4, From: 108, Syms: []byte{108, 109, 110, 111}}, want, false)
}

func TestAnotherRound(t *testing.T) { // P19.2: the pile is emptied, whether the Round is a later or an earlier one, and whether something is fresh or not
	c := plain()
	full := api.Hear{Seq: 3, Round: 4, Pile: everyPlace(c)}
	for _, round := range []int{0, 3, 5, 255} {
		want := api.Hear{Seq: 3, Round: round, Pile: pileOf(c, nil)}
		wantTake(t, c, full, api.Data{Seq: 3, Round: round, From: most(c), Syms: []byte{7}}, want, false)
		wantTake(t, c, full, api.Data{Seq: 3, Round: round, From: 65535, Syms: []byte{7, 8}}, want, false)
		want.Pile.Syms = []api.Sym{{At: 2, Value: 7}}
		wantTake(t, c, full, api.Data{Seq: 3, Round: round, From: 2, Syms: []byte{7}}, want, false)
	}
	wantTake(t, c, full, api.Data{Seq: 3, Round: 4, From: 2, Syms: []byte{7}}, full, false)
}

func TestFirstRoundBeyond(t *testing.T) { // P19.2: nothing fresh of a new one: the Round is that of the data all the same
	c := plain()
	for _, from := range []int{most(c), most(c) + 1, 65535} {
		want := api.Hear{Seq: 3, Round: 0, Pile: pileOf(c, nil)}
		wantTake(t, c, newHear(t, c, 3), api.Data{Seq: 3, From: from, Syms: []byte{1}}, want, false)
	}
}

func TestNothingFreshTellsNothing(t *testing.T) { // P19.2: a pile that would tell the block is not asked, till something is fresh
	c := plain()
	b := blockOf(t, c, 3, 2)
	row := rowOf(t, c, b)
	n := most(c)
	full := api.Hear{Seq: 3, Round: 4, Pile: pileOf(c, row, span(0, n)...)}
	for _, from := range []int{0, 40, n - 1, n, 65535} {
		wantTake(t, c, full, api.Data{Seq: 3, Round: 4, From: from, Syms: []byte{1, 2}}, full, false)
	}
	for _, gap := range []int{0, 50, n - 1} {
		h := api.Hear{Seq: 3, Round: 4, Pile: pileOf(c, row, slices.Concat(span(0, gap), span(gap+1, n))...)}
		wantTake(t, c, h, api.Data{Seq: 3, Round: 4, From: n, Syms: []byte{1}}, h, false)
		wantTake(t, c, h, api.Data{Seq: 3, Round: 4, From: gap, Syms: row[gap : gap+1]}, done(c, 3, 4, b), true)
	}
}

func TestRoundsBrokenOff(t *testing.T) { // P19.2: symbols of rounds ahead of it do not count, so that the block is told as late as by a new one
	c := plain()
	b := blockOf(t, c, 3, 2)
	row := rowOf(t, c, b)
	_, at := takeAll(t, c, newHear(t, c, 3), packets(3, 9, row, 6))
	if at < 2 {
		t.Fatal(at)
	}
	h := newHear(t, c, 3)
	for round := range 9 {
		h, _ = takeAll(t, c, h, packets(3, round, row, 6)[:at])
		if len(h.Pile.Syms) != 6*at {
			t.Fatal(round, h)
		}
	}
	for round := 20; round < 25; round++ { // of all places, but none of them its own
		h, _ = takeAll(t, c, h, packets(3, round, text(len(row), round), 11))
		if h.Done || len(h.Pile.Syms) != most(c) {
			t.Fatal(round, h)
		}
	}
	h, again := takeAll(t, c, h, packets(3, 9, row, 6))
	if !same(h, done(c, 3, 9, b)) || again != at {
		t.Error(h, at, again)
	}
}

func TestBackToARound(t *testing.T) { // P19.2: what was heard of a round that was left is gone
	c := plain()
	row := rowOf(t, c, blockOf(t, c, 3, 2))
	h := newHear(t, c, 3)
	for k := range 40 {
		d := api.Data{Seq: 3, Round: k % 2, From: k, Syms: row[k : k+1]}
		h = wantTake(t, c, h, d, api.Hear{Seq: 3, Round: k % 2, Pile: pileOf(c, row, k)}, false)
	}
}

func TestBehindDone(t *testing.T) { // P19.2: it stays as it is, whatever comes; its pile too, if it has one
	c := plain()
	b := blockOf(t, c, 3, 2)
	row := rowOf(t, c, b)
	for _, h := range []api.Hear{done(c, 3, 4, b), done(c, 3, -1, b), {Seq: 3, Round: 4, Pile: pileOf(c, row, 5, 7), Done: true, Bytes: b}, {Seq: 3, Round: 4, Pile: everyPlace(c), Done: true, Bytes: b}} {
		for _, round := range edgeRounds {
			for _, from := range []int{0, 5, 6, 65535} {
				wantTake(t, c, h, api.Data{Seq: 3, Round: round, From: from, Syms: []byte{1, 2}}, h, false)
				wantTake(t, c, h, api.Data{Seq: 3, Round: round, From: from, Syms: row[:api.MaxBatch]}, h, false)
			}
		}
		for _, d := range packets(3, 4, rowOf(t, c, blockOf(t, c, 3, 5)), 22) { // another block of its Seq
			wantTake(t, c, h, d, h, false)
		}
	}
}

func TestBehindItsOwn(t *testing.T) { // P19.2: the packets of the round go on coming behind the one that told it
	c := plain()
	b := blockOf(t, c, 3, 2)
	list := packets(3, 4, rowOf(t, c, b), 9)
	h, at := takeAll(t, c, newHear(t, c, 3), list)
	if at < 0 || at == len(list)-1 {
		t.Fatal(at)
	}
	for _, d := range list {
		h = wantTake(t, c, h, d, done(c, 3, 4, b), false)
	}
}

func TestSymbolsOfAnotherBlock(t *testing.T) { // P19.2: its symbols tell it, but its Seq is another one; a round of its own symbols tells the block
	for _, c := range []api.Config{plain(), sized(4, 4, 16, 2), sized(16, 4, 2, 1)} {
		b, other := blockOf(t, c, 3, 2), blockOf(t, c, 4, 2)
		h, at := takeAll(t, c, newHear(t, c, 3), packets(3, 0, rowOf(t, c, other), 16))
		if at != -1 || !same(h, api.Hear{Seq: 3, Round: 0, Pile: pileOf(c, rowOf(t, c, other), span(0, most(c))...)}) {
			t.Error(h, at)
		}
		if next, at := takeAll(t, c, newHear(t, c, 4), packets(4, 0, rowOf(t, c, other), 16)); at == -1 || !same(next, done(c, 4, 0, other)) {
			t.Error(next, at)
		}
		h, at = takeAll(t, c, h, packets(3, 0, rowOf(t, c, b), 16))
		if at != -1 {
			t.Error("symbols that stand are not fresh", h, at)
		}
		h, at = takeAll(t, c, h, packets(3, 1, rowOf(t, c, b), 16))
		if at == -1 || !same(h, done(c, 3, 1, b)) {
			t.Error(h, at)
		}
	}
}

func TestSymbolsOfNoBlock(t *testing.T) { // P19.2: what is told can be no right Block: of a wrong sum, or of a right one
	c := sized(4, 5, 4, 1)
	for _, seq := range []int{0, 3} {
		list := append(noBlocks(uint32(seq)), make([]byte, 14), text(14, 1), bytes.Repeat([]byte{255}, 14))
		for _, seed := range []int{1, 2, 3} {
			turned := blockOf(t, c, seq, seed)
			turned[5*seed-4] ^= 64
			list = append(list, turned)
		}
		for _, b := range list {
			wantNoBlock(t, c, seq, b)
		}
	}
}

// wantNoBlock hears all symbols of b, which are no right Block's bytes, under this number.
func wantNoBlock(t *testing.T, c api.Config, seq int, b []byte) {
	t.Helper()
	row := rowOf(t, c, b)
	want := api.Hear{Seq: seq, Round: 6, Pile: pileOf(c, row, span(0, most(c))...)}
	path, metric, e := beam.Decode(want.Pile, c.Beam, c.Depth)
	if joined, _ := bit.Join(path); !bytes.Equal(joined, b) || metric != 0 || e != api.OK {
		t.Fatal(b, path, e)
	}
	if h, at := takeAll(t, c, newHear(t, c, seq), packets(seq, 6, row, 16)); at != -1 || !same(h, want) {
		t.Error(b, h, at)
	}
}

func TestOtherFieldsAreNothing(t *testing.T) { // P19.2: of right Configs, Bytes, Passes, Beam and Depth alone matter; a packet may have more symbols than Batch
	c := plain()
	b := blockOf(t, c, 3, 2)
	for _, other := range []api.Config{
		{Window: 1, Qs: 1, Qr: 1, Batch: 1},
		{Window: 16, Qs: 16, Qr: 16, Batch: 64, Msg: 200, Seqs: api.MaxSeq},
		{Window: 2, Qs: 3, Qr: 4, Batch: 5, Msg: 6, Seqs: 2},
	} {
		other.Bytes, other.Passes, other.Beam, other.Depth = c.Bytes, c.Passes, c.Beam, c.Depth
		for _, batch := range []int{1, 4, 64} {
			list := packets(3, 4, rowOf(t, c, b), batch)
			_, want := takeAll(t, c, newHear(t, c, 3), list)
			if h, at := takeAll(t, other, newHear(t, other, 3), list); !same(h, done(c, 3, 4, b)) || at != want {
				t.Error(other, batch, h, at, want)
			}
		}
	}
}
