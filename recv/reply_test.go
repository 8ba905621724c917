package recv_test

import (
	"testing"

	"volute/api"
)

func TestReply(t *testing.T) { // P23.3: each edge of a Receiver; nothing but Clock changes
	for _, r := range rightReceivers(t) {
		wantReply(t, wantReply(t, r, bitsByText(r)), bitsByText(r))
	}
}

func TestReplyEachWindow(t *testing.T) { // P23.3: no Hear Done, each alone, all, all but each: from a Window of one up to the greatest
	for window := 1; window <= api.MaxWindow; window++ {
		c := with(plain(), func(c *api.Config) { c.Window = window })
		for _, next := range []int{0, 3, 255, api.MaxSeq - window} {
			all := map[int]int{}
			for i := range window {
				all[next+i] = i % 4
			}
			full := had(fresh(c, next), all)
			wantReply(t, fresh(c, next), 0)
			wantReply(t, full, 1<<window-1)
			for i := range window {
				wantReply(t, had(fresh(c, next), map[int]int{next + i: 3}), 1<<i)
				wantReply(t, changed(full, func(r *api.Receiver) { r.Hears[i] = unheard(c, next+i) }), 1<<window-1-1<<i)
			}
		}
	}
}

func TestReplyEachBits(t *testing.T) { // P23.3: each set of a Window of six; those that are heard in part are not had
	c := with(plain(), func(c *api.Config) { c.Window = 6 })
	part, _ := almost(t, c, blockBytes(c, 3, 0, text(2, 1)))
	for bits := range uint32(1 << 6) {
		r := fresh(c, 3)
		for i := range r.Hears {
			if bits>>i&1 == 1 {
				r = had(r, map[int]int{3 + i: 0})
			} else {
				r.Hears[i].Round, r.Hears[i].Pile.Syms = part.Round, part.Pile.Syms
			}
		}
		wantReply(t, r, bits)
	}
}

func TestReplyNext(t *testing.T) { // P23.3: each Next that a packet can tell
	for _, next := range []int{0, 1, 255, 256, 1<<16 - 1, 1 << 16, 0x01020304, api.MaxSeq - 5, api.MaxSeq - 1, api.MaxSeq} {
		wantReply(t, fresh(plain(), next), 0)
		wantReply(t, fresh(greatest(), next), 0)
	}
	wantReply(t, had(fresh(plain(), api.MaxSeq-2), map[int]int{api.MaxSeq - 1: 3}), 2)
}

func TestClock(t *testing.T) { // P23.3: one more with each reply, and with nothing else; it stays at MaxCount
	for _, r := range []api.Receiver{started(plain()), had(opened(queued(fresh(plain(), 3), 2), 5), map[int]int{3: 2, 4: 3})} {
		for _, x := range [][2]int{{0, 1}, {1, 2}, {99, 100}, {api.MaxCount - 2, api.MaxCount - 1}, {api.MaxCount - 1, api.MaxCount}, {api.MaxCount, api.MaxCount}} {
			r.Clock = x[0]
			next := wantReply(t, r, bitsByText(r))
			if next.Clock != x[1] || next.Bad != r.Bad || next.Told != r.Told {
				t.Error(x, next)
			}
		}
	}
}

func TestReplyGoesNowhere(t *testing.T) { // P23.3: nobody goes on with it, even one that could, as no call leaves it
	r := had(opened(fresh(plain(), 3), 5), map[int]int{3: 2, 4: 3})
	wantState(t, wantReply(t, r, 3), 3, 7, true, string(r.Join.Text))
}
