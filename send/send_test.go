package send_test

import (
	"bytes"
	"encoding/binary"
	"hash/crc32"
	"math"
	"slices"
	"testing"

	"volute/ack"
	"volute/api"
	"volute/code"
	"volute/data"
	"volute/send"
)

// extra is how many bytes a block has beside those of its message.
const extra = 10

// plain is a right Config: a block has 24 segments, a round 120 symbols, its last packet one, and a message at most five blocks.
func plain() api.Config {
	return api.Config{Bytes: 2, Beam: 3, Depth: 1, Window: 3, Qs: 4, Qr: 2, Batch: 7, Passes: 5, Msg: 9, Seqs: 40}
}

// least and greatest are the right Configs of the least and of the greatest numbers.
func least() api.Config {
	return api.Config{Bytes: 1, Beam: 1, Depth: 1, Window: 1, Qs: 1, Qr: 1, Batch: 1, Passes: 4}
}

func greatest() api.Config {
	return api.Config{Bytes: 16, Beam: 16, Depth: 3, Window: 16, Qs: 16, Qr: 16, Batch: 64, Passes: 16, Msg: 200, Seqs: api.MaxSeq}
}

// with is c with what change does to it.
func with(c api.Config, change func(c *api.Config)) api.Config {
	change(&c)
	return c
}

// wrongConfigs are c with one field that may not be.
func wrongConfigs(c api.Config) []api.Config {
	list := []api.Config{{}}
	for _, x := range []struct {
		of             func(c *api.Config) *int
		below, greater int
	}{
		{func(c *api.Config) *int { return &c.Bytes }, 0, 17},
		{func(c *api.Config) *int { return &c.Beam }, 0, 17},
		{func(c *api.Config) *int { return &c.Depth }, 0, 4},
		{func(c *api.Config) *int { return &c.Window }, 0, 17},
		{func(c *api.Config) *int { return &c.Qs }, 0, 17},
		{func(c *api.Config) *int { return &c.Qr }, 0, 17},
		{func(c *api.Config) *int { return &c.Batch }, 0, 65},
		{func(c *api.Config) *int { return &c.Passes }, 3, 17},
		{func(c *api.Config) *int { return &c.Msg }, -1, 201},
		{func(c *api.Config) *int { return &c.Seqs }, -1, api.MaxSeq + 1},
	} {
		for _, wrong := range []int{x.below, x.greater, -1, math.MaxInt, math.MinInt, 1<<32 + 4} {
			list = append(list, with(c, func(c *api.Config) { *x.of(c) = wrong }))
		}
	}
	return list
}

// text is n bytes, others for each seed; no two that are beside each other are the same.
func text(n, seed int) []byte {
	b := make([]byte, n)
	for i := range b {
		b[i] = byte(i*151 + seed*29 + i>>4)
	}
	return b
}

// most is how many symbols a round has, by chapter 17.
func most(c api.Config) int { return (2*c.Bytes + 2*extra) * c.Passes }

// waits are right Emits numbered from base on, below next: new ones, some within their round and at its end, of all kinds of bytes; none of them is acked.
func waits(c api.Config, base, next int) []api.Emit {
	var l []api.Emit
	for seq := base; seq < next; seq++ {
		w := api.Emit{Seq: seq, Bytes: text(c.Bytes+extra, seq)}
		switch (seq - base) % 4 {
		case 1:
			w.Round, w.From = seq%256, c.Batch
		case 2:
			w.Round, w.From = 255, most(c)
		case 3:
			w.Round, w.From = 254, most(c)-1
		}
		l = append(l, w)
	}
	return l
}

// made is a right Sender of c, with these Ends; without any of them all was had.
func made(c api.Config, base int, ends ...int) api.Sender {
	next := base
	if len(ends) > 0 {
		next = ends[len(ends)-1]
	}
	return api.Sender{Config: c, Clock: 5, Refused: 6, Bad: 7, Base: base, Next: next, Ends: ends, Sent: min(next, len(ends)+2), Waits: waits(c, base, next)}
}

// acked is s with these of its Waits acked, by their places.
func acked(s api.Sender, places ...int) api.Sender {
	s = copyOf(s)
	for _, i := range places {
		s.Waits[i].Acked = true
	}
	return s
}

// copyOf is s in memory of its own.
func copyOf(s api.Sender) api.Sender {
	s.Ends = slices.Clone(s.Ends)
	s.Waits = slices.Clone(s.Waits)
	for i := range s.Waits {
		s.Waits[i].Bytes = slices.Clone(s.Waits[i].Bytes)
	}
	return s
}

// changed is s, in memory of its own, with what change does to it.
func changed(s api.Sender, change func(s *api.Sender)) api.Sender {
	s = copyOf(s)
	change(&s)
	return s
}

func sameEmit(a, b api.Emit) bool {
	return a.Seq == b.Seq && a.Round == b.Round && a.From == b.From && a.Acked == b.Acked && bytes.Equal(a.Bytes, b.Bytes)
}

func same(a, b api.Sender) bool {
	return a.Config == b.Config && a.Closed == b.Closed && a.Clock == b.Clock && a.Refused == b.Refused && a.Bad == b.Bad &&
		a.Sent == b.Sent && a.Next == b.Next && a.Base == b.Base &&
		slices.Equal(a.Ends, b.Ends) && slices.EqualFunc(a.Waits, b.Waits, sameEmit)
}

// oneMore is a counter's next number, by chapter 16.
func oneMore(n int) int {
	if n == api.MaxCount {
		return n
	}
	return n + 1
}

// blockBytes are the bytes of a block, by chapter 13.
func blockBytes(c api.Config, seq, mark int, part []byte) []byte {
	b := binary.BigEndian.AppendUint32(nil, uint32(seq))
	b = append(b, byte(mark), byte(len(part)))
	b = append(b, part...)
	b = append(b, make([]byte, c.Bytes-len(part))...)
	return binary.LittleEndian.AppendUint32(b, crc32.ChecksumIEEE(b))
}

// parts are msg as the texts of its blocks: one is begun for each byte that the one ahead of it has no room for.
func parts(c api.Config, msg []byte) [][]byte {
	l := [][]byte{nil}
	for _, x := range msg {
		if len(l[len(l)-1]) == c.Bytes {
			l = append(l, nil)
		}
		l[len(l)-1] = append(l[len(l)-1], x)
	}
	return l
}

// count is how many blocks a message of n bytes has.
func count(c api.Config, n int) int { return len(parts(c, make([]byte, n))) }

// accepted is s behind a Send of msg that is not refused, by P22.2.
func accepted(s api.Sender, msg []byte) api.Sender {
	s = copyOf(s)
	l := parts(s.Config, msg)
	for i, part := range l {
		mark := 0
		if i == 0 {
			mark += api.First
		}
		if i == len(l)-1 {
			mark += api.Last
		}
		s.Waits = append(s.Waits, api.Emit{Seq: s.Next, Bytes: blockBytes(s.Config, s.Next, mark, part)})
		s.Next++
	}
	s.Ends = append(s.Ends, s.Next)
	s.Sent++
	return s
}

// sent is what Send answers of a right Sender, by P22.2.
func sent(s api.Sender, msg []byte) (api.Sender, api.Errno) {
	e := api.OK
	switch {
	case s.Closed:
		e = api.ErrClosed
	case len(msg) > s.Config.Msg:
		e = api.ErrLong
	case s.Next+count(s.Config, len(msg)) > s.Config.Seqs:
		e = api.ErrSpent
	case len(s.Ends) >= s.Config.Qs:
		e = api.ErrFull
	default:
		return accepted(s, msg), e
	}
	return changed(s, func(s *api.Sender) { s.Refused = oneMore(s.Refused) }), e
}

// ticked is what Tick answers of a right Sender, by P22.3 and P18.2.
func ticked(t *testing.T, s api.Sender) (api.Sender, [][]byte) {
	t.Helper()
	s = copyOf(s)
	s.Clock = oneMore(s.Clock)
	var packets [][]byte
	for i := range s.Waits {
		w := &s.Waits[i]
		if i >= s.Config.Window || w.Acked {
			continue
		}
		if w.From == most(s.Config) {
			w.From = 0
			w.Round = (w.Round + 1) % 256
		}
		row, e := code.Encode(w.Bytes, w.From, min(s.Config.Batch, most(s.Config)-w.From))
		packet, f := data.Make(api.Data{Seq: w.Seq, Round: w.Round, From: w.From, Syms: row})
		if e != api.OK || f != api.OK {
			t.Fatal(s, i, e, f)
		}
		packets = append(packets, packet)
		w.From += len(row)
	}
	return s, packets
}

// learnt is what Learn answers of a right Sender and a packet that says a, by P22.4.
func learnt(s api.Sender, a api.Ack) (api.Sender, api.Errno) {
	switch {
	case a.Next < s.Base:
		return s, api.ErrOld
	case a.Next > s.Base+len(s.Waits):
		return s, api.ErrFar
	}
	s = copyOf(s)
	s.Base = a.Next
	s.Ends = slices.DeleteFunc(s.Ends, func(end int) bool { return end <= a.Next })
	s.Waits = slices.DeleteFunc(s.Waits, func(w api.Emit) bool { return w.Seq < a.Next })
	for i := range s.Waits {
		if i < s.Config.Window && a.Bits>>i&1 == 1 {
			s.Waits[i].Acked = true
		}
	}
	return s, api.OK
}

// packetOf is the packet of an ack that may be made.
func packetOf(t *testing.T, next int, bits uint32) []byte {
	t.Helper()
	b, e := ack.Make(api.Ack{Next: next, Bits: bits})
	if e != api.OK {
		t.Fatal(next, bits, e)
	}
	return b
}

func wantRight(t *testing.T, s api.Sender) {
	t.Helper()
	if e := send.Check(s); e != api.OK {
		t.Errorf("Check(%+v) = %d", s, e)
	}
	if n := send.Confirmed(s); n != s.Sent-len(s.Ends) {
		t.Errorf("Confirmed(%+v) = %d", s, n)
	}
}

// wantWrong asks each call about a Sender that is not right, also with what would be another error.
func wantWrong(t *testing.T, s api.Sender) {
	t.Helper()
	none := api.Sender{}
	if e := send.Check(s); e != api.ErrArg {
		t.Errorf("Check(%+v) = %d", s, e)
	}
	if n := send.Confirmed(s); n != 0 {
		t.Errorf("Confirmed(%+v) = %d", s, n)
	}
	for _, closed := range []bool{false, true} {
		s.Closed = closed
		for _, n := range []int{0, 1, 9, 10, 201} {
			if got, e := send.Send(s, text(n, 1)); !same(got, none) || e != api.ErrArg {
				t.Errorf("Send(%+v, of %d bytes) = %+v, %d", s, n, got, e)
			}
		}
		if got, e := send.Close(s); !same(got, none) || e != api.ErrArg {
			t.Errorf("Close(%+v) = %+v, %d", s, got, e)
		}
		if got, packets, e := send.Tick(s); !same(got, none) || len(packets) != 0 || e != api.ErrArg {
			t.Errorf("Tick(%+v) = %+v, %x, %d", s, got, packets, e)
		}
		for _, b := range [][]byte{nil, {0x41}, packetOf(t, 0, 0), packetOf(t, 3, 1), packetOf(t, api.MaxSeq, 7)} {
			if got, e := send.Learn(s, b); !same(got, none) || e != api.ErrArg {
				t.Errorf("Learn(%+v, %x) = %+v, %d", s, b, got, e)
			}
		}
	}
}

// wantSend asks Send, holds what it answers to be right, and hands it on.
func wantSend(t *testing.T, s api.Sender, msg []byte, want api.Sender, wantE api.Errno) api.Sender {
	t.Helper()
	got, e := send.Send(s, msg)
	if !same(got, want) || e != wantE {
		t.Fatalf("Send(%+v, %x) = %+v, %d, not %+v, %d", s, msg, got, e, want, wantE)
	}
	wantRight(t, got)
	return got
}

// wantSent holds Send to the chapter's text, and to the error that is named here.
func wantSent(t *testing.T, s api.Sender, msg []byte, wantE api.Errno) api.Sender {
	t.Helper()
	want, e := sent(s, msg)
	if e != wantE {
		t.Fatalf("%+v, of %d bytes: the text says %d, not %d", s, len(msg), e, wantE)
	}
	return wantSend(t, s, msg, want, wantE)
}

func wantClose(t *testing.T, s api.Sender) api.Sender {
	t.Helper()
	got, e := send.Close(s)
	if !same(got, changed(s, func(s *api.Sender) { s.Closed = true })) || e != api.OK {
		t.Fatalf("Close(%+v) = %+v, %d", s, got, e)
	}
	wantRight(t, got)
	return got
}

// wantTicked holds Tick to the chapter's text.
func wantTicked(t *testing.T, s api.Sender) (api.Sender, [][]byte) {
	t.Helper()
	want, wantPackets := ticked(t, s)
	got, packets, e := send.Tick(s)
	if !same(got, want) || !slices.EqualFunc(packets, wantPackets, bytes.Equal) || e != api.OK {
		t.Fatalf("Tick(%+v) = %+v, %x, %d, not %+v, %x", s, got, packets, e, want, wantPackets)
	}
	wantRight(t, got)
	return got, packets
}

func wantLearn(t *testing.T, s api.Sender, b []byte, want api.Sender, wantE api.Errno) api.Sender {
	t.Helper()
	got, e := send.Learn(s, b)
	if !same(got, want) || e != wantE {
		t.Fatalf("Learn(%+v, %x) = %+v, %d, not %+v, %d", s, b, got, e, want, wantE)
	}
	wantRight(t, got)
	return got
}

// wantLearnt holds Learn to the chapter's text, and to the error that is named here.
func wantLearnt(t *testing.T, s api.Sender, next int, bits uint32, wantE api.Errno) api.Sender {
	t.Helper()
	want, e := learnt(s, api.Ack{Next: next, Bits: bits})
	if e != wantE {
		t.Fatalf("%+v, %d, %x: the text says %d, not %d", s, next, bits, e, wantE)
	}
	return wantLearn(t, s, packetOf(t, next, bits), want, wantE)
}

// wantBad asks Learn of bytes that are no ack.
func wantBad(t *testing.T, s api.Sender, b []byte, wantE api.Errno) {
	t.Helper()
	wantLearn(t, s, b, changed(s, func(s *api.Sender) { s.Bad = oneMore(s.Bad) }), wantE)
}

// rightSenders are Senders at their edges, and some between.
func rightSenders() []api.Sender {
	c, low, high := plain(), least(), greatest()
	one := with(c, func(c *api.Config) { c.Window, c.Qs = 1, 1 })
	list := []api.Sender{
		{Config: c},
		{Config: low},
		{Config: high},
		made(c, 0, 1),
		made(c, 0, 2, 3, 6),
		acked(made(c, 0, 2, 3, 6), 1, 2),
		acked(made(c, 0, 2, 3, 6), 0, 1, 2, 3, 4, 5),
		made(c, 5, 6, 9, 10, 12),
		made(c, 3),
		made(c, c.Seqs),
		made(c, c.Seqs-1, c.Seqs),
		made(c, c.Seqs-9, c.Seqs-8, c.Seqs-4, c.Seqs),
		made(c, 0, c.Seqs),
		made(one, 2, 7),
		made(high, 0, 13),
		acked(made(high, 7, 13, 14, 27, 40, 41), 2, 3, 15, 16, 17),
		made(high, 100, 101, 102, 103, 104, 105, 106, 107, 108, 109, 110, 111, 112, 113, 114, 115, 116),
		made(high, api.MaxSeq-5, api.MaxSeq-2, api.MaxSeq),
		made(high, api.MaxSeq),
	}
	for _, s := range slices.Clone(list) {
		list = append(list,
			changed(s, func(s *api.Sender) { s.Closed = true }),
			changed(s, func(s *api.Sender) { s.Clock, s.Refused, s.Bad = 0, 0, 0 }),
			changed(s, func(s *api.Sender) { s.Clock, s.Refused, s.Bad = api.MaxCount-1, api.MaxCount-1, api.MaxCount-1 }),
			changed(s, func(s *api.Sender) { s.Clock, s.Refused, s.Bad = api.MaxCount, api.MaxCount, api.MaxCount }),
			changed(s, func(s *api.Sender) { s.Sent = len(s.Ends) }),
			changed(s, func(s *api.Sender) { s.Sent = s.Next }),
		)
	}
	return list
}
