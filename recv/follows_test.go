package recv_test

import (
	"bytes"
	"slices"
	"testing"

	"volute/api"
	"volute/recv"
	"volute/send"
)

// dice are numbers without a plan.
type dice uint32

func (d *dice) below(n int) int {
	*d = *d*1664525 + 1013904223
	return int(*d>>8) % n
}

// config is a right Config of small blocks, without a plan.
func (d *dice) config() api.Config {
	return api.Config{
		Bytes: 1 + d.below(3), Beam: 1 + d.below(4), Depth: 1, Window: 1 + d.below(6), Qs: 1, Qr: 1 + d.below(3),
		Batch: 1 + d.below(api.MaxBatch), Passes: 4 + d.below(2), Msg: d.below(60), Seqs: 10 + d.below(200),
	}
}

// rows are the symbols of a script's blocks: those of one number are the same throughout.
type rows map[int][]byte

func (l rows) of(t *testing.T, c api.Config, seq, seed int) []byte {
	t.Helper()
	if l[seq] == nil {
		mark := []int{1, 0, 2, 3, 3, 1, 2}[(seq*5+seed)%7]
		l[seq] = passes4(t, c, blockBytes(c, seq, mark, partOf(c, seq, mark)))
	}
	return l[seq]
}

// data is a packet of one of the blocks around the window, mostly of the first ones that are not told; from 40 to 64 symbols, some bits turned.
func (d *dice) data(t *testing.T, r api.Receiver, l rows, seed int) api.Data {
	t.Helper()
	seq := max(0, r.Next-2+d.below(r.Config.Window+4))
	if d.below(3) > 0 {
		seq = r.Next + d.below(r.Config.Window)
	}
	seq = min(seq, api.MaxSeq-1)
	row := slices.Clone(l.of(t, r.Config, seq, seed))
	from := d.below(len(row) - 39)
	row = row[from:min(len(row), from+40+d.below(25))]
	if d.below(9) == 0 {
		row[d.below(len(row))] ^= byte(1 << d.below(8))
	}
	return api.Data{Seq: seq, Round: 3 + d.below(20)/19, From: from, Syms: row}
}

// step does something to r, held to the chapter's text, and tells what it was, and the message that was taken out.
func (d *dice) step(t *testing.T, r api.Receiver, l rows, seed int) (next api.Receiver, kind string, msg []byte) {
	t.Helper()
	switch d.below(12) {
	case 0:
		_, _, e := received(r)
		next, msg = wantReceived(t, r, e)
		if e != api.OK {
			return next, "nothing", nil
		}
		return next, "receive", msg
	case 1:
		return wantReply(t, r, bitsByText(r)), "reply", nil
	case 2:
		b := packetOf(t, d.data(t, r, l, seed))
		b[d.below(11)] ^= byte(1 + d.below(255))
		got, _, e := recv.Take(r, b)
		if e == api.OK {
			t.Fatal(b)
		}
		wantBad(t, r, b, e)
		return got, "bad", nil
	}
	next, had, e := byText(t, r, d.data(t, r, l, seed))
	switch {
	case e != api.OK:
		return next, e.Error(), nil
	case len(had) == 0:
		return next, "heard", nil
	case next.Next == r.Next && next.Hears[0].Done:
		return next, "stopped", nil
	case next.Next == r.Next:
		return next, "had", nil
	case next.Next == r.Next+1:
		return next, "one", nil
	}
	return next, "several", nil
}

// wantQueueOf holds the Queue of next to that of r, without msg at its beginning, if it was received, and with others behind it; those are handed out.
func wantQueueOf(t *testing.T, r, next api.Receiver, kind string, msg []byte) [][]byte {
	t.Helper()
	rest := r.Queue
	if kind == "receive" {
		if !bytes.Equal(rest[0], msg) {
			t.Fatal(kind, r, msg)
		}
		rest = rest[1:]
	}
	if len(next.Queue) > next.Config.Qr || len(next.Queue) < len(rest) || !slices.EqualFunc(next.Queue[:len(rest)], rest, bytes.Equal) {
		t.Fatal(kind, r, next)
	}
	more := next.Queue[len(rest):]
	if next.Told-r.Told != len(more) {
		t.Fatal(kind, r, next)
	}
	return more
}

func TestScripts(t *testing.T) { // P23.1 to P23.4: calls without a plan, held to the text: Queue is never longer than Qr, and nothing is dropped from it
	seen := map[string]int{}
	for seed := range 200 {
		d := dice(seed * 7919)
		c := d.config()
		r, e := recv.New(c)
		if e != api.OK {
			t.Fatal(e)
		}
		if seed%10 == 0 { // up to the greatest number that a block may have
			r = fresh(c, api.MaxSeq-1-d.below(20))
		}
		first := r.Told
		l := rows{}
		var put, taken [][]byte
		for range 120 {
			next, kind, msg := d.step(t, r, l, seed)
			seen[kind]++
			put = append(put, wantQueueOf(t, r, next, kind, msg)...)
			if kind == "receive" {
				taken = append(taken, msg)
			}
			if next.Next < r.Next || next.Told < r.Told || next.Bad < r.Bad || next.Clock < r.Clock {
				t.Fatal(kind, r, next)
			}
			r = next
		}
		if !slices.EqualFunc(append(taken, r.Queue...), put, bytes.Equal) || r.Told != first+len(put) {
			t.Fatal(seed, taken, r, put)
		}
	}
	for _, kind := range []string{"nothing", "receive", "reply", "bad", "old", "far", "heard", "stopped", "had", "one", "several"} {
		if seen[kind] < 20 {
			t.Error(kind, seen)
		}
	}
}

// channel is what stands between the ends: what it does to packets hangs on its dice.
type channel struct {
	dice  *dice
	noise int // one packet of so many has bits turned; 0: none
	sent  [][]byte
}

// pass hands on some of the packets, also earlier ones.
func (ch *channel) pass(packets [][]byte) [][]byte {
	ch.sent = append(ch.sent, packets...)
	var l [][]byte
	for _, p := range packets {
		if ch.dice.below(5) == 0 {
			continue
		}
		if ch.dice.below(4) == 0 {
			l = append(l, ch.sent[ch.dice.below(len(ch.sent))])
		}
		p = slices.Clone(p)
		if ch.noise > 0 && ch.dice.below(ch.noise) == 0 {
			p[ch.dice.below(len(p))] ^= byte(1 << ch.dice.below(8))
		}
		l = append(l, p)
	}
	return l
}

// ends are both of them, the messages that are to be sent, and those that were received.
type ends struct {
	s          api.Sender
	r          api.Receiver
	wait, msgs [][]byte
	got        [][]byte
}

// cycle is one tick and one reply, with what the channel lets through, and a Receive now and then.
func (x *ends) cycle(t *testing.T, ch *channel) {
	t.Helper()
	if len(x.wait) > 0 && len(x.s.Ends) < x.s.Config.Qs {
		next, e := send.Send(x.s, x.wait[0])
		if e != api.OK {
			t.Fatal(e)
		}
		x.s, x.wait = next, x.wait[1:]
	}
	s, packets, e := send.Tick(x.s)
	if e != api.OK {
		t.Fatal(e)
	}
	x.s = s
	for _, p := range ch.pass(packets) {
		next, _, e := recv.Take(x.r, p)
		if len(next.Hears) == 0 || e == api.ErrFar {
			t.Fatalf("%x: %+v, %d", p, next, e)
		}
		x.r = next
	}
	r, packet, e := recv.Reply(x.r)
	if e != api.OK {
		t.Fatal(e)
	}
	x.r = r
	if ch.dice.below(3) > 0 {
		s, e := send.Learn(x.s, packet)
		if e != api.OK {
			t.Fatalf("%x: %d", packet, e)
		}
		x.s = s
	}
	if ch.dice.below(6) == 0 {
		if next, msg, e := recv.Receive(x.r); e == api.OK {
			x.r, x.got = next, append(x.got, msg)
		}
	}
}

func TestToTheEnd(t *testing.T) { // P23.2 to P23.4: what layer 22 sends, some of it lost, doubled, late, turned: message by message it is received, in order, none is missing, and who sent them learns it
	for seed := range 20 {
		d := dice(seed*31 + 7)
		c := api.Config{Bytes: 1 + seed%5, Beam: 8, Depth: 1, Window: 1 + d.below(5), Qs: 4, Qr: 1 + d.below(3), Batch: 16 + d.below(40), Passes: 5, Msg: 9, Seqs: 1000}
		r, e := recv.New(c)
		if e != api.OK {
			t.Fatal(e)
		}
		x := &ends{s: api.Sender{Config: c}, r: r}
		for i := range 9 {
			x.msgs = append(x.msgs, text(d.below(c.Msg+1), i))
		}
		x.wait = x.msgs
		ch := &channel{dice: &d, noise: 9 * (seed % 2)}
		for cycles := 0; len(x.got) < len(x.msgs) || send.Confirmed(x.s) < len(x.msgs); cycles++ {
			if cycles > 5000 {
				t.Fatalf("%d: %+v, %+v", seed, x.s, x.r)
			}
			x.cycle(t, ch)
			if len(x.r.Queue) > c.Qr || x.r.Told != len(x.got)+len(x.r.Queue) || send.Confirmed(x.s) > x.r.Told || x.r.Told > x.s.Sent {
				t.Fatalf("%d: %+v, %+v", seed, x.s, x.r)
			}
		}
		if !slices.EqualFunc(x.got, x.msgs, bytes.Equal) || x.r.Next != x.s.Next || len(x.r.Queue) != 0 || x.r.Join.Open {
			t.Errorf("%d: %x, not %x; %+v", seed, x.got, x.msgs, x.r)
		}
	}
}

func TestNobodyReceives(t *testing.T) { // P23.4: as long as nobody receives, Queue stays full, those behind it wait, and none is lost in the end
	c := api.Config{Bytes: 1, Beam: 4, Depth: 1, Window: 3, Qs: 16, Qr: 2, Batch: 64, Passes: 4, Msg: 9, Seqs: 1000}
	r, e := recv.New(c)
	s := api.Sender{Config: c}
	if e != api.OK {
		t.Fatal(e)
	}
	clean := func() {
		next, packets, e := send.Tick(s)
		if e != api.OK {
			t.Fatal(e)
		}
		s = next
		for _, p := range packets {
			if r, _, e = recv.Take(r, p); e != api.OK {
				t.Fatal(e)
			}
		}
		after, packet, e := recv.Reply(r)
		next, f := send.Learn(s, packet)
		if e != api.OK || f != api.OK {
			t.Fatal(e, f)
		}
		r, s = after, next
	}
	for i := range 8 {
		next, e := send.Send(s, text(i%3, i))
		if e != api.OK {
			t.Fatal(e)
		}
		s = next
	}
	for range 60 {
		clean()
	}
	if len(r.Queue) != 2 || r.Told != 2 || send.Confirmed(s) != 2 {
		t.Fatalf("%+v", r)
	}
	for i := range 8 {
		next, msg := wantReceived(t, r, api.OK)
		if !slices.Equal(msg, text(i%3, i)) {
			t.Errorf("%d: %x", i, msg)
		}
		r = next
		for range 12 {
			clean()
		}
	}
	if len(r.Queue) != 0 || r.Told != 8 || send.Confirmed(s) != 8 {
		t.Errorf("%+v", r)
	}
}

func TestAgain(t *testing.T) { // R3: an answer hangs neither on what was asked ahead of it nor on how often; nothing is kept
	list := rightReceivers(t)
	for k := len(list) - 1; k >= 0; k-- {
		r := list[k]
		for range 2 {
			_, _, e := received(r)
			wantReceived(t, r, e)
			wantReply(t, r, bitsByText(r))
			wantBad(t, r, []byte("none"), api.ErrLen)
			if r.Next > 0 {
				wantTook(t, r, api.Data{Seq: r.Next - 1, Syms: []byte{1}}, api.ErrOld)
			}
			if r.Next < api.MaxSeq && r.Config.Depth == 1 {
				wantTook(t, r, api.Data{Seq: r.Next, Round: 7, Syms: text(30, k)}, api.OK)
			}
			wantRight(t, r)
		}
	}
}
