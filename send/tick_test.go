package send_test

import (
	"bytes"
	"slices"
	"testing"

	"volute/api"
	"volute/conf"
	"volute/data"
	"volute/emit"
	"volute/send"
)

func TestTickKnown(t *testing.T) { // P22.3, P22.4: worked out apart from this project
	c := with(plain(), func(c *api.Config) { c.Passes = 4 })
	s := api.Sender{Config: c}
	for _, msg := range []string{"abc", "", "volute"} {
		s = wantSent(t, s, []byte(msg), api.OK)
	}
	tick := func(want ...string) {
		t.Helper()
		next, packets, e := send.Tick(s)
		if e != api.OK || len(packets) != len(want) {
			t.Fatal(packets, e)
		}
		for i := range want {
			if !bytes.Equal(packets[i], fromHex(t, want[i])) {
				t.Errorf("%x, not %s", packets[i], want[i])
			}
		}
		s = next
	}
	learn := func(packet string) {
		t.Helper()
		next, e := send.Learn(s, fromHex(t, packet))
		if e != api.OK {
			t.Fatal(e)
		}
		s = next
	}
	tick("440000000000000007aba352aae2111cf654", "44000000010000000701f252475c11d7a454", "440000000200000007ef205267791139db54")
	learn("410000000000000006dfa683c6") // Next 0, the blocks 1 and 2
	tick("44000000000000070732343b35c514ebf1d7")
	learn("4100000002000000008a502055") // Next 2: the block 2 is acked still
	if s.Base != 2 || !slices.Equal(s.Ends, []int{3, 6}) || send.Confirmed(s) != 1 {
		t.Error(s)
	}
	tick("440000000300000007457152473e11cbe454", "44000000040000000722a552b9e711d18754")
	learn("4100000006000000004af6a0a0") // Next 6
	if s.Base != 6 || len(s.Ends) != 0 || len(s.Waits) != 0 || send.Confirmed(s) != 3 || s.Clock != 3 {
		t.Error(s)
	}
	tick()
}

func TestTick(t *testing.T) { // P22.3: each edge of a Sender; no Waits, fewer than Window, as many, more
	for _, s := range rightSenders() {
		for range 4 {
			s, _ = wantTicked(t, s)
		}
	}
}

func TestTickEachWindow(t *testing.T) { // P22.3: each Window beside each number of Waits, each of them acked or not
	for window := 1; window <= 5; window++ {
		for n := range 8 {
			c := with(plain(), func(c *api.Config) { c.Window = window })
			s := made(c, 4)
			if n > 0 {
				s = made(c, 4, 4+n)
			}
			for mask := range 1 << n {
				s := copyOf(s)
				var want []int
				for i := range n {
					s.Waits[i].Acked = mask>>i&1 == 1
					if i < window && !s.Waits[i].Acked {
						want = append(want, 4+i)
					}
				}
				_, packets := wantTicked(t, s)
				var seqs []int
				for _, p := range packets {
					d, e := data.Read(p)
					if e != api.OK {
						t.Fatal(e)
					}
					seqs = append(seqs, d.Seq)
				}
				if !slices.Equal(seqs, want) {
					t.Error(window, n, mask, seqs)
				}
			}
		}
	}
}

func TestTickGreatestWindow(t *testing.T) { // P22.3: fifteen, sixteen and seventeen Waits
	for _, n := range []int{api.MaxWindow - 1, api.MaxWindow, api.MaxWindow + 1} {
		s := made(greatest(), 9, 9+n)
		_, packets := wantTicked(t, s)
		if len(packets) != min(n, api.MaxWindow) {
			t.Error(n, len(packets))
		}
	}
}

func TestTickIsEmits(t *testing.T) { // P22.3: each is what layer 18 says; behind the window, and if it is acked, it stays
	for _, s := range rightSenders() {
		next, packets, e := send.Tick(s)
		if e != api.OK {
			t.Fatal(s, e)
		}
		for i, w := range s.Waits {
			if i >= s.Config.Window {
				if !sameEmit(next.Waits[i], w) {
					t.Error(i, next.Waits[i], w)
				}
				continue
			}
			later, packet, e := emit.Tick(s.Config, w)
			if !sameEmit(next.Waits[i], later) || e != api.OK {
				t.Error(i, next.Waits[i], later, e)
			}
			if len(packet) == 0 {
				continue
			}
			if len(packets) == 0 || !bytes.Equal(packets[0], packet) {
				t.Fatal(i, packets, packet)
			}
			packets = packets[1:]
		}
		if len(packets) != 0 {
			t.Error(packets)
		}
	}
}

func TestTickAllAcked(t *testing.T) { // P22.3: no packet, though there are others behind the window
	for _, s := range []api.Sender{acked(made(plain(), 0, 5), 0, 1, 2), acked(made(plain(), 0, 3), 0, 1, 2), acked(made(plain(), 7, 9), 0, 1)} {
		next, packets := wantTicked(t, s)
		if len(packets) != 0 || next.Clock != s.Clock+1 || !slices.EqualFunc(next.Waits, s.Waits, sameEmit) {
			t.Error(next, packets)
		}
	}
}

func TestClock(t *testing.T) { // P22.3: one more with each tick, with packets and without, Closed or not; it stays at MaxCount
	for _, s := range []api.Sender{{Config: plain()}, made(plain(), 0, 2, 3), made(plain(), 7)} {
		for _, closed := range []bool{false, true} {
			for _, x := range [][2]int{{0, 1}, {1, 2}, {99, 100}, {api.MaxCount - 2, api.MaxCount - 1}, {api.MaxCount - 1, api.MaxCount}, {api.MaxCount, api.MaxCount}} {
				s.Clock, s.Closed = x[0], closed
				next, _ := wantTicked(t, s)
				if next.Clock != x[1] || next.Refused != s.Refused || next.Bad != s.Bad {
					t.Error(x, next)
				}
			}
		}
	}
}

func TestTickRounds(t *testing.T) { // P22.3: through a whole round and into the next one; all of the window tick by tick
	for _, batch := range []int{1, 7, 24, 64} {
		c := with(plain(), func(c *api.Config) { c.Batch = batch })
		s := api.Sender{Config: c}
		s = wantSent(t, s, text(8, 1), api.OK)
		for tick := range 2*conf.Ticks(c) + 1 {
			var packets [][]byte
			s, packets = wantTicked(t, s)
			if len(packets) != c.Window {
				t.Fatal(tick, len(packets))
			}
			for i, p := range packets {
				d, e := data.Read(p)
				if d.Seq != i || d.Round != tick/conf.Ticks(c) || d.From != tick%conf.Ticks(c)*batch || e != api.OK {
					t.Error(tick, i, d, e)
				}
			}
		}
		if s.Waits[3].Round != 0 || s.Waits[3].From != 0 {
			t.Error(s.Waits[3])
		}
	}
}

func TestTickSendsNothingElse(t *testing.T) { // P22.3: neither is a message ended, nor another one begun
	s := made(plain(), 5, 6, 9, 10, 12)
	next, _ := wantTicked(t, s)
	if next.Base != 5 || next.Next != 12 || next.Sent != s.Sent || !slices.Equal(next.Ends, s.Ends) || send.Confirmed(next) != send.Confirmed(s) {
		t.Error(next)
	}
}
