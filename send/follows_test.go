package send_test

import (
	"bytes"
	"slices"
	"strings"
	"testing"

	"volute/api"
	"volute/block"
	"volute/data"
	"volute/hear"
	"volute/join"
	"volute/send"
)

// dice are numbers without a plan.
type dice uint32

func (d *dice) below(n int) int {
	*d = *d*1664525 + 1013904223
	return int(*d>>8) % n
}

// config is a right Config without a plan.
func (d *dice) config() api.Config {
	return api.Config{
		Bytes: 1 + d.below(api.MaxBlock), Beam: 1, Depth: 1, Window: 1 + d.below(api.MaxWindow), Qs: 1 + d.below(6), Qr: 1,
		Batch: 1 + d.below(api.MaxBatch), Passes: 4 + d.below(13), Msg: d.below(60), Seqs: 10 + d.below(200),
	}
}

// step does something to s, held to the chapter's text, and tells what it was.
func (d *dice) step(t *testing.T, s api.Sender) (next api.Sender, kind string) {
	t.Helper()
	switch d.below(8) {
	case 0, 1, 2:
		msg := text(d.below(s.Config.Msg+2), d.below(99))
		_, e := sent(s, msg)
		return wantSent(t, s, msg, e), "send " + e.Error()
	case 3, 4:
		next, packets := wantTicked(t, s)
		if len(packets) == 0 {
			return next, "quiet tick"
		}
		return next, "tick"
	case 5:
		b := packetOf(t, s.Base, 0)
		b[d.below(len(b))] ^= byte(1 + d.below(255))
		got, e := send.Learn(s, b)
		if e == api.OK {
			t.Fatal(b)
		}
		wantBad(t, s, b, e)
		return got, "bad"
	}
	if d.below(300) == 0 {
		return wantClose(t, s), "close"
	}
	a := api.Ack{Next: max(0, s.Base-1+d.below(len(s.Waits)+3)), Bits: uint32(d.below(1 << 16))}
	_, e := learnt(s, a)
	return wantLearnt(t, s, a.Next, a.Bits, e), "learn " + e.Error()
}

func TestScripts(t *testing.T) { // P22.1 to P22.5: calls without a plan, held to the text; what is confirmed never falls, and is no more than what was accepted
	seen := map[string]int{}
	for seed := range 250 {
		d := dice(seed * 7919)
		s, e := send.New(d.config())
		if e != api.OK {
			t.Fatal(e)
		}
		confirmed := 0
		for range 120 {
			next, kind := d.step(t, s)
			seen[kind]++
			now := send.Confirmed(next)
			if now < confirmed || now > next.Sent || !strings.HasPrefix(kind, "learn") && now != confirmed {
				t.Fatal(kind, confirmed, now, s, next)
			}
			if next.Sent < s.Sent || next.Base < s.Base || next.Next < s.Next || next.Clock < s.Clock || next.Refused < s.Refused || next.Bad < s.Bad || s.Closed && !next.Closed || len(next.Ends) > s.Config.Qs {
				t.Fatal(kind, s, next)
			}
			s, confirmed = next, now
		}
	}
	for _, kind := range []string{"send ", "send closed", "send long", "send spent", "send full", "tick", "quiet tick", "bad", "close", "learn ", "learn old", "learn far"} {
		if seen[kind] < 20 {
			t.Error(kind, seen)
		}
	}
}

func TestConfirmedNeverFalls(t *testing.T) { // P22.5: whatever is called with whatever, an error or not
	for _, s := range rightSenders() {
		before := send.Confirmed(s)
		for _, n := range []int{0, s.Config.Msg, s.Config.Msg + 1} {
			got, _ := send.Send(s, text(n, 1))
			wantConfirmed(t, got, before)
		}
		closed, _ := send.Close(s)
		wantConfirmed(t, closed, before)
		ticked, _, _ := send.Tick(s)
		wantConfirmed(t, ticked, before)
		for _, b := range [][]byte{nil, packetOf(t, max(0, s.Base-1), 7), packetOf(t, s.Base, 7)} {
			got, _ := send.Learn(s, b)
			wantConfirmed(t, got, before)
		}
		if s.Next < api.MaxSeq {
			got, _ := send.Learn(s, packetOf(t, s.Next+1, 7))
			wantConfirmed(t, got, before)
		}
		for next := s.Base; next <= s.Next; next++ {
			got, _ := send.Learn(s, packetOf(t, next, 7))
			more := 0
			for _, end := range s.Ends {
				if end <= next {
					more++
				}
			}
			wantConfirmed(t, got, before+more)
		}
	}
}

func wantConfirmed(t *testing.T, s api.Sender, want int) {
	t.Helper()
	if got := send.Confirmed(s); got != want {
		t.Errorf("Confirmed(%+v) = %d, not %d", s, got, want)
	}
}

// listener is an end that hears all that it is sent, by layers 19 and 21.
type listener struct {
	next  int
	hears []api.Hear
	join  api.Join
	msgs  [][]byte
}

func newListener(t *testing.T, c api.Config) *listener {
	t.Helper()
	l := &listener{}
	for seq := range c.Window {
		l.hears = append(l.hears, newHear(t, c, seq))
	}
	return l
}

func newHear(t *testing.T, c api.Config, seq int) api.Hear {
	t.Helper()
	h, e := hear.New(c, seq)
	if e != api.OK {
		t.Fatal(e)
	}
	return h
}

// take hears a packet, which is of the window or was had already.
func (l *listener) take(t *testing.T, c api.Config, packet []byte) {
	t.Helper()
	d, e := data.Read(packet)
	if e != api.OK || d.Seq >= l.next+c.Window {
		t.Fatal(d, e)
	}
	if d.Seq < l.next {
		return
	}
	h, _, e := hear.Take(c, l.hears[d.Seq-l.next], d)
	if e != api.OK {
		t.Fatal(e)
	}
	l.hears[d.Seq-l.next] = h
	for l.hears[0].Done {
		b, e := block.Read(c.Bytes, l.hears[0].Bytes)
		next, msg, done, f := join.Take(l.join, b)
		if e != api.OK || f != api.OK {
			t.Fatal(e, f)
		}
		if done {
			l.msgs = append(l.msgs, msg)
		}
		l.join = next
		l.hears = append(l.hears[1:], newHear(t, c, l.next+c.Window))
		l.next++
	}
}

// reply is the ack of what was had.
func (l *listener) reply(t *testing.T) []byte {
	t.Helper()
	var bits uint32
	for i, h := range l.hears {
		if h.Done {
			bits |= 1 << i
		}
	}
	return packetOf(t, l.next, bits)
}

func TestToTheEnd(t *testing.T) { // P22.2 to P22.5: messages, one behind the other, heard by layer 19, some packets and some acks lost: all of them are put together, and then confirmed
	for seed := range 12 {
		d := dice(seed*31 + 7)
		c := with(plain(), func(c *api.Config) { c.Bytes, c.Window, c.Beam, c.Batch = 1+seed%5, 1+d.below(5), 8, 16+d.below(40) })
		var msgs [][]byte
		for i := range 7 {
			msgs = append(msgs, text(d.below(c.Msg+1), i))
		}
		c.Seqs = 1000
		s, l := api.Sender{Config: c}, newListener(t, c)
		for waiting, steps := msgs, 0; len(waiting) > 0 || send.Confirmed(s) < len(msgs); steps++ {
			if steps > 3000 {
				t.Fatal(seed, s)
			}
			if len(waiting) > 0 && len(s.Ends) < c.Qs {
				s = wantSent(t, s, waiting[0], api.OK)
				waiting = waiting[1:]
			}
			var packets [][]byte
			s, packets = wantTicked(t, s)
			for _, p := range packets {
				if d.below(5) > 0 {
					l.take(t, c, p)
				}
			}
			if d.below(3) > 0 {
				reply := l.reply(t)
				want, e := send.Learn(s, reply)
				if e != api.OK {
					t.Fatal(reply, e)
				}
				s = want
			}
			if send.Confirmed(s) > len(l.msgs) || len(l.msgs) > s.Sent {
				t.Fatal(seed, send.Confirmed(s), len(l.msgs), s.Sent)
			}
		}
		if !slices.EqualFunc(l.msgs, msgs, bytes.Equal) || len(s.Waits) != 0 || len(s.Ends) != 0 || s.Base != s.Next {
			t.Error(seed, l.msgs, s)
		}
	}
}

func TestAgain(t *testing.T) { // R3: an answer hangs neither on what was asked ahead of it nor on how often; nothing is kept
	list := rightSenders()
	for k := len(list) - 1; k >= 0; k-- {
		s := list[k]
		for range 2 {
			want, e := sent(s, text(k%9, k))
			wantSend(t, s, text(k%9, k), want, e)
			wantTicked(t, s)
			wantLearnt(t, s, s.Next, 0, api.OK)
			wantLearnt(t, s, s.Base, 3, api.OK)
			wantBad(t, s, []byte("none"), api.ErrLen)
			wantClose(t, s)
			wantRight(t, s)
		}
	}
}
