package recv_test

import (
	"math"
	"slices"
	"testing"

	"volute/api"
	"volute/recv"
)

// started is what a new Receiver is.
func started(c api.Config) api.Receiver {
	return changed(fresh(c, 0), func(r *api.Receiver) { r.Clock, r.Bad, r.Told = 0, 0, 0 })
}

func TestNew(t *testing.T) { // P23.1: all 0, Window new Hears, whatever the Config is, as long as it is right
	for _, c := range []api.Config{plain(), least(), greatest(), with(plain(), func(c *api.Config) { c.Seqs, c.Msg = 0, 0 })} {
		got, e := recv.New(c)
		if !same(got, started(c)) || e != api.OK {
			t.Errorf("New(%+v) = %+v, %d", c, got, e)
		}
		wantRight(t, got)
	}
}

func TestNewEachWindow(t *testing.T) { // P23.1: as many Hears as the Window is wide, of each size of a block and each number of passes
	for window := 1; window <= api.MaxWindow; window++ {
		for passes := 4; passes <= api.MaxPasses; passes++ {
			c := with(plain(), func(c *api.Config) { c.Window, c.Bytes, c.Passes = window, 1+(window+passes)%api.MaxBlock, passes })
			got, e := recv.New(c)
			if !same(got, started(c)) || len(got.Hears) != window || e != api.OK {
				t.Errorf("New(%+v) = %+v, %d", c, got, e)
			}
			wantRight(t, got)
		}
	}
}

func TestConfigWrong(t *testing.T) { // P23.1, R4: one field alone, of an end that has heard nothing, and of one that has heard much
	much := had(opened(queued(fresh(plain(), 3), 2), 5), map[int]int{3: 2, 4: 3})
	for _, c := range wrongConfigs(plain()) {
		if got, e := recv.New(c); !same(got, api.Receiver{}) || e != api.ErrArg {
			t.Errorf("New(%+v) = %+v, %d", c, got, e)
		}
		wantWrong(t, api.Receiver{Config: c})
		wantWrong(t, changed(started(plain()), func(r *api.Receiver) { r.Config = c }))
		wantWrong(t, changed(much, func(r *api.Receiver) { r.Config = c }))
	}
	wantWrong(t, api.Receiver{})
}

func TestConfigOfOther(t *testing.T) { // P23.1: right, but not that of the Hears, or of the Queue
	r := had(queued(fresh(plain(), 3), 2), map[int]int{4: 1})
	for _, c := range []api.Config{
		with(plain(), func(c *api.Config) { c.Bytes = 1 }),
		with(plain(), func(c *api.Config) { c.Bytes = 3 }),
		with(plain(), func(c *api.Config) { c.Passes = 4 }),
		with(plain(), func(c *api.Config) { c.Passes = 6 }),
		with(plain(), func(c *api.Config) { c.Window = 3 }),
		with(plain(), func(c *api.Config) { c.Window = 5 }),
		with(plain(), func(c *api.Config) { c.Qr = 1 }),
	} {
		wantWrong(t, changed(r, func(r *api.Receiver) { r.Config = c }))
	}
	wantRight(t, changed(r, func(r *api.Receiver) {
		r.Config = api.Config{Bytes: 2, Beam: 1, Depth: 3, Window: 4, Qs: 1, Qr: 16, Batch: 64, Passes: 5}
	}))
}

func TestRight(t *testing.T) { // P23.1: each edge
	for _, r := range rightReceivers(t) {
		wantRight(t, r)
	}
}

// counters are the three numbers of a Receiver that stay at MaxCount.
func counters() []func(r *api.Receiver) *int {
	return []func(r *api.Receiver) *int{
		func(r *api.Receiver) *int { return &r.Clock },
		func(r *api.Receiver) *int { return &r.Bad },
		func(r *api.Receiver) *int { return &r.Told },
	}
}

func TestCounters(t *testing.T) { // a right Receiver: each counter alone, at its edges and beside them
	for _, base := range []api.Receiver{started(plain()), had(opened(queued(fresh(plain(), 3), 2), 5), map[int]int{3: 2, 4: 3}), fresh(greatest(), 7)} {
		for _, of := range counters() {
			for _, n := range []int{0, 1, api.MaxCount - 1, api.MaxCount} {
				wantRight(t, changed(base, func(r *api.Receiver) { *of(r) = n }))
			}
			for _, n := range []int{-1, -2, api.MaxCount + 1, 2 * api.MaxCount, 1<<31 - 1, 1 << 31, 1 << 32, 1<<32 + 1, -1 << 32, 1 - 1<<32, math.MaxInt, math.MinInt} {
				wantWrong(t, changed(base, func(r *api.Receiver) { *of(r) = n }))
			}
		}
	}
}

func TestNext(t *testing.T) { // a right Receiver: the Hears are numbered from Next on, and above MaxSeq it alone is wrong
	for _, c := range []api.Config{plain(), least(), greatest()} {
		for _, next := range []int{0, 1, 255, 256, c.Seqs, api.MaxSeq - c.Window, api.MaxSeq - 1, api.MaxSeq} {
			wantRight(t, fresh(c, next))
		}
		for _, next := range []int{api.MaxSeq + 1, api.MaxSeq + 2, 2 * api.MaxSeq, 1<<32 + 3, 1 << 62, math.MaxInt - api.MaxWindow, math.MaxInt - 2, math.MaxInt, -1, -2, -c.Window, 3 - 1<<32, math.MinInt, math.MinInt + 1} {
			wantWrong(t, fresh(c, next))
		}
	}
}

func TestNextAlone(t *testing.T) { // P23.1: another one than that of the Hears, which are right
	for _, base := range []api.Receiver{fresh(plain(), 0), fresh(plain(), 3), fresh(least(), 3), had(fresh(plain(), 3), map[int]int{4: 1, 6: 3})} {
		for _, next := range []int{-1, 0, 1, 2, 3, 4, 5, 7, api.MaxSeq, api.MaxSeq + 1, math.MaxInt, math.MinInt, base.Next + 1<<32} {
			if next != base.Next {
				wantWrong(t, changed(base, func(r *api.Receiver) { r.Next = next }))
			}
		}
	}
	wantWrong(t, changed(fresh(plain(), 0), func(r *api.Receiver) { r.Next = -1 }))
}

func TestHearsHowMany(t *testing.T) { // P23.1: one too few, at each end, one too many, none, twice as many
	for _, r := range rightReceivers(t) {
		n := len(r.Hears)
		wantWrong(t, changed(r, func(r *api.Receiver) { r.Hears = append(r.Hears, unheard(r.Config, r.Next+n)) }))
		wantWrong(t, changed(r, func(r *api.Receiver) { r.Hears = r.Hears[:n-1] }))
		wantWrong(t, changed(r, func(r *api.Receiver) { r.Hears = r.Hears[1:] }))
		wantWrong(t, changed(r, func(r *api.Receiver) { r.Hears = nil }))
		wantWrong(t, changed(r, func(r *api.Receiver) { r.Hears = append(r.Hears, r.Hears...) }))
	}
}

func TestHearsEach(t *testing.T) { // P23.1: one alone that is no right Hear, or has another number, at each place
	for _, r := range []api.Receiver{fresh(plain(), 0), fresh(greatest(), 7), had(fresh(plain(), 3), map[int]int{4: 1, 5: 3}), fresh(plain(), api.MaxSeq)} {
		for i := range r.Hears {
			for _, change := range []func(h *api.Hear){
				func(h *api.Hear) { *h = api.Hear{Seq: h.Seq} },
				func(h *api.Hear) { h.Round = -2 },
				func(h *api.Hear) { h.Round = 256 },
				func(h *api.Hear) { h.Pile.N-- },
				func(h *api.Hear) { h.Pile.N++ },
				func(h *api.Hear) { h.Pile.Passes-- },
				func(h *api.Hear) { h.Pile.Passes++ },
				func(h *api.Hear) { h.Round, h.Pile.Syms = -1, []api.Sym{{}} },
				func(h *api.Hear) { h.Round, h.Pile.Syms = 5, []api.Sym{{Value: 256}} },
				func(h *api.Hear) { h.Round, h.Pile.Syms = 5, []api.Sym{{At: 2}, {At: 2}} },
				func(h *api.Hear) { h.Round, h.Pile.Syms = 5, []api.Sym{{At: h.Pile.N * h.Pile.Passes}} },
				func(h *api.Hear) { h.Done = !h.Done },
				func(h *api.Hear) { h.Done, h.Bytes = false, blockBytes(r.Config, h.Seq, 3, nil) },
				func(h *api.Hear) { h.Done, h.Bytes = true, blockBytes(r.Config, h.Seq+1, 3, nil) },
				func(h *api.Hear) { h.Done, h.Bytes = true, blockBytes(r.Config, h.Seq, 4, nil) },
				func(h *api.Hear) { h.Done, h.Bytes = true, blockBytes(r.Config, h.Seq, 1, nil) },
				func(h *api.Hear) { h.Done, h.Bytes = true, blockBytes(r.Config, h.Seq, 3, nil)[1:] },
				func(h *api.Hear) { h.Done, h.Bytes = true, append(blockBytes(r.Config, h.Seq, 3, nil), 0) },
				func(h *api.Hear) { h.Done, h.Bytes = true, blockBytes(r.Config, h.Seq, 3, nil); h.Bytes[7] ^= 1 },
				func(h *api.Hear) { *h = unheard(r.Config, h.Seq+1) },
				func(h *api.Hear) { *h = unheard(r.Config, h.Seq-1) },
				func(h *api.Hear) { *h = unheard(r.Config, r.Next+len(r.Hears)) },
				func(h *api.Hear) { *h = unheard(r.Config, h.Seq+1<<32) },
				func(h *api.Hear) { *h = unheard(r.Config, -1) },
				func(h *api.Hear) { *h = unheard(r.Config, math.MinInt) },
				func(h *api.Hear) { *h = unheard(r.Config, math.MaxInt) },
			} {
				wantWrong(t, changed(r, func(r *api.Receiver) { change(&r.Hears[i]) }))
			}
		}
	}
}

func TestHearsInOrder(t *testing.T) { // P23.1: each two in another order, one twice, all one number further
	for _, r := range []api.Receiver{fresh(plain(), 3), had(fresh(plain(), 3), map[int]int{4: 1, 6: 3}), had(opened(queued(fresh(plain(), 3), 2), 5), map[int]int{3: 2, 4: 3})} {
		for i := range r.Hears {
			for j := range i {
				wantWrong(t, changed(r, func(r *api.Receiver) { r.Hears[i], r.Hears[j] = r.Hears[j], r.Hears[i] }))
				wantWrong(t, changed(r, func(r *api.Receiver) { r.Hears[i] = r.Hears[j] }))
			}
		}
		wantWrong(t, changed(r, func(r *api.Receiver) { slices.Reverse(r.Hears) }))
		wantWrong(t, changed(r, func(r *api.Receiver) { r.Hears = fresh(r.Config, r.Next+1).Hears }))
		wantWrong(t, changed(r, func(r *api.Receiver) { r.Hears = fresh(r.Config, r.Next-1).Hears }))
	}
}

func TestJoin(t *testing.T) { // a right Receiver: Text of at most MaxBytes bytes, none, unless it is Open
	for _, base := range []api.Receiver{fresh(plain(), 0), had(queued(fresh(plain(), 3), 2), map[int]int{4: 1}), fresh(greatest(), 5)} {
		for _, n := range []int{0, 1, 2, base.Config.Msg, base.Config.Msg + 1, api.MaxMsg + 1, api.MaxBytes - 1, api.MaxBytes} {
			wantRight(t, opened(base, n))
			r := changed(base, func(r *api.Receiver) { r.Join.Text = text(n, 1) })
			if n == 0 {
				wantRight(t, r)
			} else {
				wantWrong(t, r)
			}
		}
		for _, n := range []int{api.MaxBytes + 1, api.MaxBytes + 2, 2 * api.MaxBytes, 1<<16 + 1} {
			wantWrong(t, opened(base, n))
			wantWrong(t, changed(base, func(r *api.Receiver) { r.Join.Text = text(n, 1) }))
		}
	}
}

func TestQueueHowMany(t *testing.T) { // a right Receiver: each Qr; as many messages, one more, and far more
	for qr := 1; qr <= api.MaxQueue; qr++ {
		r := fresh(with(plain(), func(c *api.Config) { c.Qr = qr }), 3)
		for n := range qr + 1 {
			wantRight(t, queued(r, n))
			wantRight(t, changed(r, func(r *api.Receiver) { r.Queue = make([][]byte, n) }))
		}
		for _, n := range []int{qr + 1, qr + 2, 2*qr + 1, api.MaxQueue + 1, qr + 256} {
			wantWrong(t, queued(r, n))
			wantWrong(t, changed(r, func(r *api.Receiver) { r.Queue = make([][]byte, n) }))
		}
	}
}

func TestQueueEach(t *testing.T) { // a right Receiver: a message of MaxBytes bytes, and of one more, at each place
	for _, r := range []api.Receiver{queued(fresh(plain(), 3), 2), queued(fresh(greatest(), 3), 16), queued(fresh(least(), 3), 1)} {
		for i := range r.Queue {
			for _, n := range []int{0, 1, r.Config.Msg + 1, api.MaxMsg + 1, api.MaxBytes - 1, api.MaxBytes} {
				wantRight(t, changed(r, func(r *api.Receiver) { r.Queue[i] = text(n, 1) }))
			}
			for _, n := range []int{api.MaxBytes + 1, api.MaxBytes + 2, 2 * api.MaxBytes, 1<<16 + 1} {
				wantWrong(t, changed(r, func(r *api.Receiver) { r.Queue[i] = text(n, 1) }))
			}
		}
	}
}
