package send_test

import (
	"encoding/hex"
	"slices"
	"testing"

	"volute/api"
	"volute/block"
	"volute/send"
)

func TestExample(t *testing.T) { // the chapter's example: Seqs 0: each Send is ErrSpent
	for _, c := range []api.Config{plain(), least(), greatest()} {
		c.Seqs = 0
		s := api.Sender{Config: c}
		for i, n := range []int{0, 0, c.Msg, c.Msg / 2} {
			s = wantSent(t, s, text(n, i), api.ErrSpent)
			if s.Refused != i+1 || len(s.Waits) != 0 {
				t.Error(s)
			}
		}
	}
}

func fromHex(t *testing.T, digits string) []byte {
	t.Helper()
	b, e := hex.DecodeString(digits)
	if e != nil {
		t.Fatal(e)
	}
	return b
}

func TestSendKnown(t *testing.T) { // P22.2: worked out apart from this project
	c := plain()
	s := api.Sender{Config: c}
	for i, msg := range []string{"abc", "", "volute"} {
		next, e := send.Send(s, []byte(msg))
		if e != api.OK || next.Sent != i+1 || next.Refused != 0 || next.Clock != 0 || next.Bad != 0 || next.Base != 0 {
			t.Fatal(next, e)
		}
		wantRight(t, next)
		s = next
	}
	if s.Next != 6 || !slices.Equal(s.Ends, []int{2, 3, 6}) || len(s.Waits) != 6 {
		t.Fatal(s)
	}
	for i, digits := range []string{
		"0000000001026162f0364001", "0000000102016300016c59bd", "0000000203000000e723570d",
		"000000030102766f0bb4d23d", "0000000400026c75df0c017a", "0000000502027465d965c472",
	} {
		if !sameEmit(s.Waits[i], api.Emit{Seq: i, Bytes: fromHex(t, digits)}) {
			t.Error(i, s.Waits[i])
		}
	}
}

func TestSendEachLength(t *testing.T) { // P22.2: each size, from no byte up to Msg bytes; one more is too long
	for size := 1; size <= api.MaxBlock; size++ {
		for _, msg := range []int{0, 1, 33, api.MaxMsg} {
			c := with(greatest(), func(c *api.Config) { c.Bytes, c.Msg = size, msg })
			for n := range msg + 1 {
				wantSent(t, api.Sender{Config: c}, text(n, n), api.OK)
			}
			wantSent(t, api.Sender{Config: c}, text(msg+1, 1), api.ErrLong)
		}
	}
}

func TestSendNothing(t *testing.T) { // P22.2: a message of no byte is one block, First and Last
	for _, msg := range [][]byte{nil, {}, text(9, 1)[:0]} {
		s := wantSent(t, made(plain(), 3, 5), msg, api.OK)
		b, e := block.Read(2, s.Waits[2].Bytes)
		if len(s.Waits) != 3 || b.Seq != 5 || b.Mark != api.First|api.Last || len(b.Text) != 0 || e != api.OK {
			t.Error(s, b, e)
		}
	}
}

func TestSendBehindOthers(t *testing.T) { // P22.2: what waits stays as it is, whatever was sent of it, acked and not
	for _, s := range rightSenders() {
		for _, n := range []int{0, 1, s.Config.Bytes, s.Config.Bytes + 1, s.Config.Msg} {
			if n > s.Config.Msg {
				continue
			}
			want, e := sent(s, text(n, 4))
			wantSend(t, s, text(n, 4), want, e)
		}
	}
}

func TestSendCountsInEachField(t *testing.T) { // P22.2: of one that is accepted no counter changes but Sent
	s := made(plain(), 2, 3, 5)
	got := wantSent(t, s, text(3, 1), api.OK)
	if got.Clock != 5 || got.Refused != 6 || got.Bad != 7 || got.Sent != s.Sent+1 || got.Base != 2 || got.Next != 7 || !slices.Equal(got.Ends, []int{3, 5, 7}) || send.Confirmed(got) != send.Confirmed(s) {
		t.Error(got)
	}
}

func TestSendClosed(t *testing.T) { // P22.2: nothing more is accepted, whatever is sent
	for _, s := range rightSenders() {
		s := wantClose(t, s)
		for _, n := range []int{0, 1, s.Config.Msg, s.Config.Msg + 1, api.MaxMsg + 1, api.MaxBytes + 1} {
			wantSent(t, s, text(n, 4), api.ErrClosed)
		}
	}
}

func TestSendLong(t *testing.T) { // P22.2: the Config's own Msg, and far more
	for _, msg := range []int{0, 1, 9, 10, api.MaxMsg - 1, api.MaxMsg} {
		for _, s := range []api.Sender{{Config: plain()}, made(plain(), 2, 3, 5)} {
			s.Config.Msg, s.Config.Seqs = msg, 1000
			wantSent(t, s, text(msg, 1), api.OK)
			for _, n := range []int{msg + 1, msg + 2, msg + 256, api.MaxMsg + 1, api.MaxBytes, api.MaxBytes + 1, 1<<16 + msg} {
				wantSent(t, s, text(n, 1), api.ErrLong)
			}
		}
	}
}

func TestSendNumbersSuffice(t *testing.T) { // P22.2: just as many as the blocks need, one too few, none left
	for _, next := range []int{0, 1, 7, 1000, api.MaxSeq - 100} {
		for size := 1; size <= api.MaxBlock; size += 5 {
			for _, n := range []int{0, 1, size, size + 1, 3 * size, 60} {
				c := with(greatest(), func(c *api.Config) { c.Bytes = size })
				c.Seqs = next + count(c, n)
				s := wantSent(t, made(c, next), text(n, 2), api.OK)
				if s.Next != c.Seqs {
					t.Error(s)
				}
				wantSent(t, s, nil, api.ErrSpent)
				c.Seqs--
				wantSent(t, made(c, next), text(n, 2), api.ErrSpent)
				c.Seqs = next
				wantSent(t, made(c, next), text(n, 2), api.ErrSpent)
			}
		}
	}
}

func TestSendShorterStill(t *testing.T) { // P22.2: where the numbers do not suffice for one, they may for another one
	c := with(plain(), func(c *api.Config) { c.Seqs = 8 })
	s := made(c, 3, 5)
	s = wantSent(t, s, text(7, 1), api.ErrSpent)
	s = wantSent(t, s, text(4, 1), api.OK)
	s = wantSent(t, s, text(3, 1), api.ErrSpent)
	s = wantSent(t, s, text(2, 1), api.OK)
	s = wantSent(t, s, nil, api.ErrSpent)
	if s.Next != 8 || s.Refused != 9 || !slices.Equal(s.Ends, []int{5, 7, 8}) {
		t.Error(s)
	}
}

func TestSendAtTheGreatest(t *testing.T) { // P22.2, R5: the greatest number that a block may have, and no more
	c := greatest()
	for _, n := range []int{0, 1, 16, 17, 200} {
		s := wantSent(t, made(c, api.MaxSeq-count(c, n)), text(n, 5), api.OK)
		if s.Next != api.MaxSeq || s.Waits[len(s.Waits)-1].Seq != api.MaxSeq-1 {
			t.Error(s)
		}
		wantSent(t, s, nil, api.ErrSpent)
		wantSent(t, made(c, api.MaxSeq-count(c, n)+1), text(n, 5), api.ErrSpent)
	}
}

func TestSendFull(t *testing.T) { // P22.2: Qs - 1 Ends, and Qs, whatever Window and Qr are
	for qs := 1; qs <= api.MaxQueue; qs++ {
		c := with(plain(), func(c *api.Config) { c.Qs, c.Seqs = qs, 1000 })
		s := api.Sender{Config: c}
		for i := range qs {
			s = wantSent(t, s, text(i%8, i), api.OK)
		}
		s = wantSent(t, s, text(3, 1), api.ErrFull)
		s = wantSent(t, s, nil, api.ErrFull)
		if len(s.Ends) != qs || s.Sent != qs || s.Refused != 2 {
			t.Error(s)
		}
		// What is confirmed makes room.
		s = wantLearnt(t, s, s.Ends[0], 0, api.OK)
		s = wantSent(t, s, text(3, 1), api.OK)
		wantSent(t, s, text(3, 1), api.ErrFull)
	}
}

func TestSendWhichComesFirst(t *testing.T) { // P22.2, R4: all four at once and not, each beside each other one
	for closed := range 2 {
		for long := range 2 {
			for spent := range 2 {
				for full := range 2 {
					s := made(plain(), 5, 6, 9, 10, 12)
					s.Closed = closed == 1
					s.Config.Qs += 1 - full
					msg := text(s.Config.Msg+long, 1)
					s.Config.Seqs = s.Next + count(s.Config, len(msg)) - spent
					want := api.OK
					switch {
					case closed == 1:
						want = api.ErrClosed
					case long == 1:
						want = api.ErrLong
					case spent == 1:
						want = api.ErrSpent
					case full == 1:
						want = api.ErrFull
					}
					wantSent(t, s, msg, want)
				}
			}
		}
	}
}

func TestRefused(t *testing.T) { // P22.2: each of the four counts, up to MaxCount, and changes nothing else
	for e, s := range map[api.Errno]api.Sender{
		api.ErrClosed: changed(made(plain(), 0, 2, 3), func(s *api.Sender) { s.Closed = true }),
		api.ErrLong:   changed(made(plain(), 0, 2, 3), func(s *api.Sender) { s.Config.Msg = 4 }),
		api.ErrSpent:  changed(made(plain(), 0, 2, 3), func(s *api.Sender) { s.Config.Seqs = 5 }),
		api.ErrFull:   made(plain(), 5, 6, 9, 10, 12),
	} {
		for _, x := range [][2]int{{0, 1}, {1, 2}, {41, 42}, {api.MaxCount - 2, api.MaxCount - 1}, {api.MaxCount - 1, api.MaxCount}, {api.MaxCount, api.MaxCount}} {
			before := changed(s, func(s *api.Sender) { s.Refused = x[0] })
			after := changed(s, func(s *api.Sender) { s.Refused = x[1] })
			wantSend(t, before, text(5, 1), after, e)
		}
	}
}
