package recv_test

import (
	"bytes"
	"slices"
	"testing"

	"volute/api"
	"volute/data"
	"volute/hear"
	"volute/recv"
)

// noPackets are bytes that are no packet of data, by chapter 14, each with its error.
func noPackets(t *testing.T, seq int) map[api.Errno][][]byte {
	t.Helper()
	right := packetOf(t, api.Data{Seq: seq, Round: 9, From: 3, Syms: text(5, 1)})
	turned := func(at int) []byte {
		b := slices.Clone(right)
		b[at] ^= 1
		return b
	}
	return map[api.Errno][][]byte{
		api.ErrLen:  {nil, {}, {0x44}, right[:11], right[:len(right)-1], append(slices.Clone(right), 0), text(11, 1), append(right[:11:11], text(65, 1)...), text(api.MaxBytes+1, 1)},
		api.ErrKind: {turned(0), ackBytes(seq, 3), text(12, 1), text(75, 1)},
		api.ErrSum:  {turned(1), turned(4), turned(5), turned(7), turned(8), turned(9), turned(10)},
		api.ErrArg:  {fromHex(t, "4440000000000000013db507"), fromHex(t, "44ffffffff00000001f44b07")},
	}
}

func TestTakeBad(t *testing.T) { // P23.2, R4: bytes that are no packet: whatever the Receiver is, it is told with Bad one more, up to MaxCount
	for _, r := range rightReceivers(t) {
		for e, list := range noPackets(t, min(r.Next+1, api.MaxSeq-1)) {
			for _, b := range list {
				if _, f := data.Read(b); f != e {
					t.Fatalf("%x: %d, not %d", b, f, e)
				}
				wantBad(t, r, b, e)
			}
		}
	}
}

func TestBad(t *testing.T) { // P23.2: one more with each; it stays at MaxCount; no other counter changes
	for _, r := range []api.Receiver{started(plain()), had(opened(queued(fresh(plain(), 3), 2), 5), map[int]int{3: 2, 4: 3})} {
		for _, x := range [][2]int{{0, 1}, {1, 2}, {99, 100}, {api.MaxCount - 2, api.MaxCount - 1}, {api.MaxCount - 1, api.MaxCount}, {api.MaxCount, api.MaxCount}} {
			r.Bad = x[0]
			next := wantBad(t, r, []byte("none"), api.ErrLen)
			if next.Bad != x[1] || next.Clock != r.Clock || next.Told != r.Told || next.Next != r.Next {
				t.Error(x, next)
			}
		}
	}
}

func TestTakeOldAndFar(t *testing.T) { // P23.2, R4: a Seq of Next - 1, Next, Next + Window - 1, Next + Window, and further off
	for window := 1; window <= api.MaxWindow; window++ {
		for _, next := range []int{0, 1, 7, 300, api.MaxSeq - 20, api.MaxSeq - window, api.MaxSeq - 1, api.MaxSeq} {
			r := queued(fresh(with(plain(), func(c *api.Config) { c.Window = window }), next), 1)
			for seq, want := range map[int]api.Errno{
				0: api.ErrOld, next - 2: api.ErrOld, next - 1: api.ErrOld, next: api.OK, next + 1: api.OK, next + window - 1: api.OK,
				next + window: api.ErrFar, next + window + 1: api.ErrFar, next + 2*window: api.ErrFar, next + 256: api.ErrFar, api.MaxSeq - 1: api.ErrFar,
			} {
				if seq < 0 || seq >= api.MaxSeq {
					continue
				}
				switch {
				case seq < next:
					want = api.ErrOld
				case seq >= next && seq < next+window:
					want = api.OK
				}
				after, _ := wantTook(t, r, api.Data{Seq: seq, Round: 4, From: 2, Syms: text(5, 1)}, want)
				if want != api.OK && !same(after, r) || want == api.OK && len(after.Hears[seq-next].Pile.Syms) != 5 {
					t.Error(window, next, seq, after)
				}
			}
		}
	}
}

func TestTakeToldBesideError(t *testing.T) { // P23.2: of a packet that is old or too far ahead nothing is heard, no counter changes, and nobody goes on
	r := had(opened(fresh(plain(), 3), 5), map[int]int{3: 2, 5: 3}) // as no call leaves it: it could go on
	wantTook(t, r, api.Data{Seq: 2, Syms: text(5, 1)}, api.ErrOld)
	wantTook(t, r, api.Data{Seq: 7, Syms: text(5, 1)}, api.ErrFar)
	wantBad(t, r, nil, api.ErrLen)
}

func TestTakeIsHears(t *testing.T) { // P23.2: of the Hear of that Seq alone, as layer 19 says; Batch and Seqs of the Config bound nothing
	for _, r := range rightReceivers(t) {
		r.Config.Beam, r.Config.Depth = 2, 1 // greater ones take long
		row := text(api.MaxBatch, 3)
		for i, h := range r.Hears {
			for _, n := range []int{1, r.Config.Batch, api.MaxBatch} {
				for _, from := range []int{0, 4*segs(r.Config) - 1, 65535} {
					d := api.Data{Seq: h.Seq, Round: max(0, h.Round), From: from, Syms: row[:n]}
					if h.Seq >= api.MaxSeq {
						continue
					}
					heard, accepted, e := hear.Take(r.Config, h, d)
					if e != api.OK {
						t.Fatal(h, d, e)
					}
					if accepted { // one symbol may be enough, even one with bits turned: who goes on is tested elsewhere
						continue
					}
					want := copyOf(r)
					want.Hears[i] = heard
					wantTake(t, r, packetOf(t, d), goneOn(want), nil, api.OK)
				}
			}
		}
	}
}

func TestTakeCompletes(t *testing.T) { // P23.2: a block at each place, with each mark and length; what was had are its bytes
	for _, c := range []api.Config{plain(), least(), with(greatest(), func(c *api.Config) { c.Depth, c.Passes = 1, 4 })} {
		for i := range c.Window {
			for mark := range 4 {
				for n := range c.Bytes + 1 {
					if n < c.Bytes && (mark&api.Last == 0 || n > 2) {
						continue
					}
					next := wantTold(t, fresh(c, 7), blockBytes(c, 7+i, mark, text(n, n)))
					if isFirst := i == 0; isFirst != (next.Next == 8) || isFirst == next.Hears[i].Done {
						t.Error(i, mark, n, next)
					}
				}
			}
		}
	}
}

func TestTakeDoesNotComplete(t *testing.T) { // P23.2: a packet less than what tells the block, and one that tells another block than that of the Seq
	c := plain()
	row := passes4(t, c, blockBytes(c, 4, 3, nil))
	r, had := wantTook(t, fresh(c, 3), api.Data{Seq: 4, Round: 1, Syms: row[:10]}, api.OK)
	if len(had) != 0 || r.Hears[1].Round != 1 || len(r.Hears[1].Pile.Syms) != 10 || r.Hears[1].Done {
		t.Error(r, had)
	}
	r, had = wantTook(t, r, api.Data{Seq: 4, Round: 1, Syms: row[:5]}, api.OK) // nothing new
	if len(had) != 0 || len(r.Hears[1].Pile.Syms) != 10 {
		t.Error(r, had)
	}
	r, had = wantTook(t, r, api.Data{Seq: 4, Round: 2, From: 7, Syms: row[7:10]}, api.OK) // of another round
	if len(had) != 0 || r.Hears[1].Round != 2 || len(r.Hears[1].Pile.Syms) != 3 {
		t.Error(r, had)
	}
	other := fresh(c, 3)
	for from := 0; from < len(row); from += 48 { // all of the block 4, as if it was the block 5
		other, had = wantTook(t, other, api.Data{Seq: 5, Round: 1, From: from, Syms: row[from : from+48]}, api.OK)
		if len(had) != 0 || other.Hears[2].Done {
			t.Error(from, other, had)
		}
	}
}

func TestTakeHadAlready(t *testing.T) { // P23.2: a block that was told is not told again, of whatever round; behind Next it is old
	c := plain()
	for i := 1; i < c.Window; i++ {
		b := blockBytes(c, 3+i, 2, text(1, i))
		r := wantTold(t, fresh(c, 3), b)
		row := passes4(t, c, b)
		for _, round := range []int{0, 200, 201} {
			after, had := wantTook(t, r, api.Data{Seq: 3 + i, Round: round, Syms: row[:64]}, api.OK)
			if len(had) != 0 || !same(after, r) {
				t.Error(i, round, after, had)
			}
		}
	}
	b := blockBytes(c, 3, 2, text(1, 1))
	r := wantTold(t, fresh(c, 3), b)
	wantTook(t, r, api.Data{Seq: 3, Round: 200, Syms: passes4(t, c, b)[:64]}, api.ErrOld)
	full := wantTold(t, queued(fresh(c, 3), 2), blockBytes(c, 3, 3, nil)) // the Queue is full: it is had, and not done with
	after, had := wantTook(t, full, api.Data{Seq: 3, Round: 201, Syms: passes4(t, c, blockBytes(c, 3, 3, nil))[:64]}, api.OK)
	if len(had) != 0 || !same(after, full) || !full.Hears[0].Done {
		t.Error(full, after, had)
	}
}

func TestTakePacketByPacket(t *testing.T) { // P23.2: all of a window, each block's packets one behind the other, mixed with those of the others
	c := plain()
	r := started(c)
	told := map[int][]byte{}
	var rows [][]byte
	for seq := range c.Window {
		rows = append(rows, passes4(t, c, blockBytes(c, seq, 3, partOf(c, seq, 3))))
	}
	c.Qr = 4
	r.Config = c
	for from := 0; from < len(rows[0]); from += 16 {
		for seq := range c.Window {
			e := api.OK
			if seq < r.Next {
				e = api.ErrOld
			}
			next, had := wantTook(t, r, api.Data{Seq: seq, Round: 3, From: from, Syms: rows[seq][from : from+16]}, e)
			if len(had) > 0 && len(told[seq]) > 0 {
				t.Error(seq, "is told twice")
			}
			if len(had) > 0 {
				told[seq] = had
			}
			r = next
		}
	}
	for seq := range c.Window {
		if !bytes.Equal(told[seq], blockBytes(c, seq, 3, partOf(c, seq, 3))) || !bytes.Equal(r.Queue[seq], partOf(c, seq, 3)) {
			t.Error(seq, told[seq], r)
		}
	}
	if r.Next != 4 || r.Told != 4 {
		t.Error(r)
	}
}

func TestTakeNextAtItsGreatest(t *testing.T) { // P23.2: behind the block MaxSeq - 1 Next is MaxSeq, and every packet is old
	for _, c := range []api.Config{plain(), least(), with(greatest(), func(c *api.Config) { c.Depth, c.Passes = 1, 4 })} {
		r := fresh(c, api.MaxSeq-1)
		next := wantTold(t, r, blockBytes(c, api.MaxSeq-1, 3, nil))
		if next.Next != api.MaxSeq || next.Hears[c.Window-1].Seq != api.MaxSeq+c.Window-1 || len(next.Queue) != 1 {
			t.Error(next)
		}
		for _, seq := range []int{0, api.MaxSeq - 2, api.MaxSeq - 1} {
			wantTook(t, next, api.Data{Seq: seq, Syms: text(5, 1)}, api.ErrOld)
		}
		wantReply(t, next, 0)
		wantReceived(t, next, api.OK)
	}
	c := plain()
	r := had(fresh(c, api.MaxSeq-3), map[int]int{api.MaxSeq - 2: 0, api.MaxSeq - 1: 2}) // three at once
	if r = wantTold(t, r, blockBytes(c, api.MaxSeq-3, 1, text(2, 1))); r.Next != api.MaxSeq || len(r.Queue) != 1 {
		t.Error(r)
	}
}

// ready is a right Receiver that can go on from its first block, as no call leaves it.
func ready() api.Receiver {
	return had(opened(fresh(plain(), 3), 5), map[int]int{3: 2, 5: 3})
}

func TestTakeGoesOnOfAnotherBlock(t *testing.T) { // P23.2: the receiver goes on, whether the packet's block is accepted, was had already, or is not told
	r := ready()
	begun := string(r.Join.Text)
	after, told := wantTook(t, r, api.Data{Seq: 4, Round: 1, Syms: text(5, 1)}, api.OK) // not told
	wantState(t, after, 4, 8, false, "", begun)
	if len(told) != 0 || len(after.Hears[0].Pile.Syms) != 5 || !after.Hears[1].Done {
		t.Error(after, told)
	}
	after, told = wantTook(t, r, api.Data{Seq: 5, Round: 1, Syms: text(5, 1)}, api.OK) // had already
	wantState(t, after, 4, 8, false, "", begun)
	if len(told) != 0 || !after.Hears[1].Done || len(after.Hears[1].Pile.Syms) != 0 {
		t.Error(after, told)
	}
	after = wantTold(t, r, blockBytes(r.Config, 6, 3, nil)) // accepted
	wantState(t, after, 4, 8, false, "", begun)
	after = wantTold(t, r, blockBytes(r.Config, 4, 3, nil)) // accepted, and gone on with; for the block 5 the Queue has no room
	wantState(t, after, 5, 9, false, "", begun, "")
}

func TestTakeGoesOnOfItsOwnBlock(t *testing.T) { // P23.2: a packet of the first block, which was had already: it is gone then, and another such packet is old
	r := ready()
	d := api.Data{Seq: 3, Round: 1, Syms: text(5, 1)}
	after, told := wantTook(t, r, d, api.OK)
	wantState(t, after, 4, 8, false, "", string(r.Join.Text))
	if len(told) != 0 {
		t.Error(told)
	}
	wantTook(t, after, d, api.ErrOld)
}

func TestTakeGoesOnOfNothingFresh(t *testing.T) { // P23.2: symbols that were heard already, or that lie behind the last place
	part, _ := almost(t, plain(), blockBytes(plain(), 4, 0, text(2, 1)))
	r := changed(ready(), func(r *api.Receiver) { r.Hears[1] = part })
	for _, d := range []api.Data{
		{Seq: 4, Round: part.Round, Syms: text(5, 1)},
		{Seq: 4, Round: part.Round, From: 120, Syms: text(5, 1)},
		{Seq: 4, Round: part.Round, From: 65535, Syms: text(64, 1)},
		{Seq: 6, Round: 1, From: 120, Syms: text(5, 1)},
	} {
		after, told := wantTook(t, r, d, api.OK)
		wantState(t, after, 4, 8, false, "", string(r.Join.Text))
		if len(told) != 0 || !sameHear(after.Hears[0], part) {
			t.Error(d, after, told)
		}
	}
}

func TestTakeGoesOnFar(t *testing.T) { // P23.2: not accepted, but all of a window is gone on with, as far as the Queue has room
	c := with(plain(), func(c *api.Config) { c.Qr = 3 })
	r := had(fresh(c, 3), map[int]int{3: 3, 4: 1, 5: 2, 6: 3})
	short := []string{string(partOf(c, 3, 3)), string(partOf(c, 4, 1)) + string(partOf(c, 5, 2)), string(partOf(c, 6, 3))}
	for seq := 3; seq < 7; seq++ {
		d := api.Data{Seq: seq, Round: 9, Syms: text(5, 1)}
		after, _ := wantTook(t, r, d, api.OK)
		wantState(t, after, 7, 10, false, "", short...)
		after, _ = wantTook(t, changed(r, func(r *api.Receiver) { r.Queue = [][]byte{[]byte("p")} }), d, api.OK)
		wantState(t, after, 6, 9, false, "", "p", short[0], short[1])
		full := changed(r, func(r *api.Receiver) { r.Queue = [][]byte{[]byte("p"), []byte("q"), []byte("r")} })
		if after, told := wantTook(t, full, d, api.OK); !same(after, full) || len(told) != 0 {
			t.Error(after, told)
		}
	}
}

func TestTakeOfWrongReceiverFirst(t *testing.T) { // R4: ErrArg ahead of all that the packet would be
	wrong := changed(fresh(plain(), 3), func(r *api.Receiver) { r.Bad = -1 })
	for _, b := range [][]byte{nil, packetOf(t, api.Data{Seq: 2, Syms: []byte{1}}), packetOf(t, api.Data{Seq: 3, Syms: []byte{1}}), packetOf(t, api.Data{Seq: 70, Syms: []byte{1}})} {
		if next, had, e := recv.Take(wrong, b); !same(next, api.Receiver{}) || len(had) != 0 || e != api.ErrArg {
			t.Error(b, next, had, e)
		}
	}
}
