package recv_test

import (
	"bytes"
	"encoding/binary"
	"hash/crc32"
	"math"
	"slices"
	"testing"

	"volute/ack"
	"volute/api"
	"volute/code"
	"volute/data"
	"volute/hear"
	"volute/recv"
)

// extra is how many bytes a block has beside those of its message.
const extra = 10

// plain is a right Config: a block has 24 segments, a round 120 symbols.
func plain() api.Config {
	return api.Config{Bytes: 2, Beam: 3, Depth: 1, Window: 4, Qs: 4, Qr: 2, Batch: 7, Passes: 5, Msg: 9, Seqs: 40}
}

// least and greatest are the right Configs of the least and of the greatest numbers.
func least() api.Config {
	return api.Config{Bytes: 1, Beam: 1, Depth: 1, Window: 1, Qs: 1, Qr: 1, Batch: 1, Passes: 4}
}

func greatest() api.Config {
	return api.Config{Bytes: 16, Beam: 16, Depth: 3, Window: 16, Qs: 16, Qr: 16, Batch: 64, Passes: 16, Msg: 200, Seqs: api.MaxSeq}
}

// with is c with what change does to it.
func with(c api.Config, change func(c *api.Config)) api.Config {
	change(&c)
	return c
}

// wrongConfigs are c with one field that may not be.
func wrongConfigs(c api.Config) []api.Config {
	list := []api.Config{{}}
	for _, x := range []struct {
		of             func(c *api.Config) *int
		below, greater int
	}{
		{func(c *api.Config) *int { return &c.Bytes }, 0, 17},
		{func(c *api.Config) *int { return &c.Beam }, 0, 17},
		{func(c *api.Config) *int { return &c.Depth }, 0, 4},
		{func(c *api.Config) *int { return &c.Window }, 0, 17},
		{func(c *api.Config) *int { return &c.Qs }, 0, 17},
		{func(c *api.Config) *int { return &c.Qr }, 0, 17},
		{func(c *api.Config) *int { return &c.Batch }, 0, 65},
		{func(c *api.Config) *int { return &c.Passes }, 3, 17},
		{func(c *api.Config) *int { return &c.Msg }, -1, 201},
		{func(c *api.Config) *int { return &c.Seqs }, -1, api.MaxSeq + 1},
	} {
		for _, wrong := range []int{x.below, x.greater, -1, math.MaxInt, math.MinInt, 1<<32 + 4} {
			list = append(list, with(c, func(c *api.Config) { *x.of(c) = wrong }))
		}
	}
	return list
}

// text is n bytes, others for each seed; no two that are beside each other are the same.
func text(n, seed int) []byte {
	b := make([]byte, n)
	for i := range b {
		b[i] = byte(i*151 + seed*29 + i>>4)
	}
	return b
}

// segs is how many segments a block has, by chapter 17.
func segs(c api.Config) int { return 2*c.Bytes + 2*extra }

// blockBytes are the bytes of a block, by chapter 13.
func blockBytes(c api.Config, seq, mark int, part []byte) []byte {
	b := binary.BigEndian.AppendUint32(nil, uint32(seq))
	b = append(b, byte(mark), byte(len(part)))
	b = append(b, part...)
	b = append(b, make([]byte, c.Bytes-len(part))...)
	return binary.LittleEndian.AppendUint32(b, crc32.ChecksumIEEE(b))
}

// partOf is the text of a block of this mark: only one with the mark Last may be short.
func partOf(c api.Config, seq, mark int) []byte {
	if mark&api.Last == 0 {
		return text(c.Bytes, seq)
	}
	return text(seq%(c.Bytes+1), seq)
}

// unheard is a Hear of which nothing was heard yet.
func unheard(c api.Config, seq int) api.Hear {
	return api.Hear{Seq: seq, Round: -1, Pile: api.Pile{N: segs(c), Passes: c.Passes}}
}

// done is a Hear whose block was told.
func done(c api.Config, b []byte) api.Hear {
	h := unheard(c, int(binary.BigEndian.Uint32(b)))
	h.Round, h.Done, h.Bytes = h.Seq%256, true, b
	return h
}

// passes4 are the symbols of the first four passes, by layer 8.
func passes4(t *testing.T, c api.Config, b []byte) []byte {
	t.Helper()
	row, e := code.Encode(b, 0, 4*segs(c))
	if e != api.OK {
		t.Fatal(c, b, e)
	}
	return row
}

// almost is a Hear that has four passes of the block b but their last symbol, which is a packet: with that one it is told (P19.3).
func almost(t *testing.T, c api.Config, b []byte) (h api.Hear, packet []byte) {
	t.Helper()
	row := passes4(t, c, b)
	end := len(row) - 1
	h = unheard(c, int(binary.BigEndian.Uint32(b)))
	h.Round = 200
	for at, value := range row[:end] {
		h.Pile.Syms = append(h.Pile.Syms, api.Sym{At: at, Value: int(value)})
	}
	return h, packetOf(t, api.Data{Seq: h.Seq, Round: h.Round, From: end, Syms: row[end:]})
}

// packetOf is the packet of data that may be made.
func packetOf(t *testing.T, d api.Data) []byte {
	t.Helper()
	b, e := data.Make(d)
	if e != api.OK {
		t.Fatal(d, e)
	}
	return b
}

// fresh is a right Receiver of c that has heard nothing from next on.
func fresh(c api.Config, next int) api.Receiver {
	r := api.Receiver{Config: c, Clock: 5, Bad: 6, Told: 7, Next: next}
	for i := range c.Window {
		r.Hears = append(r.Hears, unheard(c, next+i))
	}
	return r
}

// had is r with these blocks told, by their numbers: of each the mark.
func had(r api.Receiver, marks map[int]int) api.Receiver {
	r = copyOf(r)
	for seq, mark := range marks {
		r.Hears[seq-r.Next] = done(r.Config, blockBytes(r.Config, seq, mark, partOf(r.Config, seq, mark)))
	}
	return r
}

// queued is r with n messages that wait, the lengths of which begin with none.
func queued(r api.Receiver, n int) api.Receiver {
	r = copyOf(r)
	for len(r.Queue) < n {
		k := len(r.Queue)
		r.Queue = append(r.Queue, text(3*k, k))
	}
	return r
}

// opened is r with n bytes of a message put together.
func opened(r api.Receiver, n int) api.Receiver {
	r = copyOf(r)
	r.Join = api.Join{Open: true, Text: text(n, 40)}
	return r
}

// copyOf is r in memory of its own.
func copyOf(r api.Receiver) api.Receiver {
	r.Hears = slices.Clone(r.Hears)
	for i, h := range r.Hears {
		r.Hears[i].Pile.Syms = slices.Clone(h.Pile.Syms)
		r.Hears[i].Bytes = slices.Clone(h.Bytes)
	}
	r.Join.Text = slices.Clone(r.Join.Text)
	r.Queue = slices.Clone(r.Queue)
	for i, msg := range r.Queue {
		r.Queue[i] = slices.Clone(msg)
	}
	return r
}

// changed is r, in memory of its own, with what change does to it.
func changed(r api.Receiver, change func(r *api.Receiver)) api.Receiver {
	r = copyOf(r)
	change(&r)
	return r
}

func sameHear(a, b api.Hear) bool {
	return a.Seq == b.Seq && a.Round == b.Round && a.Done == b.Done && bytes.Equal(a.Bytes, b.Bytes) &&
		a.Pile.N == b.Pile.N && a.Pile.Passes == b.Pile.Passes && slices.Equal(a.Pile.Syms, b.Pile.Syms)
}

func same(a, b api.Receiver) bool {
	return a.Config == b.Config && a.Clock == b.Clock && a.Bad == b.Bad && a.Next == b.Next && a.Told == b.Told &&
		slices.EqualFunc(a.Hears, b.Hears, sameHear) &&
		a.Join.Open == b.Join.Open && bytes.Equal(a.Join.Text, b.Join.Text) &&
		slices.EqualFunc(a.Queue, b.Queue, bytes.Equal)
}

// oneMore is a counter's next number, by chapter 16.
func oneMore(n int) int {
	if n == api.MaxCount {
		return n
	}
	return n + 1
}

// goneOn is r, as it goes on by the chapter; the blocks and what is put together of them by chapters 13 and 21.
func goneOn(r api.Receiver) api.Receiver {
	r = copyOf(r)
	for r.Hears[0].Done {
		b := r.Hears[0].Bytes
		isFirst, isLast, part := b[4]&1 == 1, b[4]&2 == 2, b[6:6+b[5]]
		isMessage := r.Join.Open || isFirst
		if isLast && isMessage && len(r.Queue) >= r.Config.Qr {
			return r
		}
		held := r.Join.Text
		if isFirst {
			held = nil
		}
		held = slices.Concat(held, part)
		switch {
		case !isMessage || len(held) > api.MaxBytes:
		case isLast:
			r.Join = api.Join{}
			r.Queue = append(r.Queue, held)
			r.Told = oneMore(r.Told)
		default:
			r.Join = api.Join{Open: true, Text: held}
		}
		r.Next++
		r.Hears = append(r.Hears[1:], unheard(r.Config, r.Next+r.Config.Window-1))
	}
	return r
}

// took is what Take answers of a right Receiver and a packet that says d, by P23.2; what is heard, by layer 19.
func took(t *testing.T, r api.Receiver, d api.Data) (next api.Receiver, had []byte, e api.Errno) {
	t.Helper()
	switch {
	case d.Seq < r.Next:
		return r, nil, api.ErrOld
	case d.Seq >= r.Next+r.Config.Window:
		return r, nil, api.ErrFar
	}
	r = copyOf(r)
	for i, h := range r.Hears {
		if h.Seq != d.Seq {
			continue
		}
		heard, accepted, e := hear.Take(r.Config, h, d)
		if e != api.OK {
			t.Fatal(r.Config, h, d, e)
		}
		r.Hears[i] = heard
		if accepted {
			had = heard.Bytes
		}
	}
	return goneOn(r), had, api.OK
}

// received is what Receive answers of a right Receiver, by P23.3.
func received(r api.Receiver) (next api.Receiver, msg []byte, e api.Errno) {
	if len(r.Queue) == 0 {
		return r, nil, api.ErrEmpty
	}
	r = copyOf(r)
	msg = r.Queue[0]
	r.Queue = r.Queue[1:]
	return goneOn(r), msg, api.OK
}

// ackBytes is the packet of an ack, by chapter 15.
func ackBytes(next int, bits uint32) []byte {
	b := binary.BigEndian.AppendUint32([]byte{0x41}, uint32(next))
	b = binary.BigEndian.AppendUint32(b, bits)
	return binary.LittleEndian.AppendUint32(b, crc32.ChecksumIEEE(b))
}

func wantRight(t *testing.T, r api.Receiver) {
	t.Helper()
	if e := recv.Check(r); e != api.OK {
		t.Errorf("Check(%+v) = %d", r, e)
	}
}

// wantWrong asks each call about a Receiver that is not right, also with what would be another error.
func wantWrong(t *testing.T, r api.Receiver) {
	t.Helper()
	none := api.Receiver{}
	if e := recv.Check(r); e != api.ErrArg {
		t.Errorf("Check(%+v) = %d", r, e)
	}
	packets := [][]byte{nil, {0x44}, text(12, 1), text(76, 1)}
	for _, seq := range []int{0, 3, r.Next - 1, r.Next, r.Next + 1, r.Next + api.MaxWindow, api.MaxSeq - 1} {
		if seq >= 0 && seq < api.MaxSeq {
			packets = append(packets, packetOf(t, api.Data{Seq: seq, Syms: []byte{1, 2}}))
		}
	}
	for _, b := range packets {
		if next, had, e := recv.Take(r, b); !same(next, none) || len(had) != 0 || e != api.ErrArg {
			t.Errorf("Take(%+v, %x) = %+v, %x, %d", r, b, next, had, e)
		}
	}
	if next, msg, e := recv.Receive(r); !same(next, none) || len(msg) != 0 || e != api.ErrArg {
		t.Errorf("Receive(%+v) = %+v, %x, %d", r, next, msg, e)
	}
	if next, packet, e := recv.Reply(r); !same(next, none) || len(packet) != 0 || e != api.ErrArg {
		t.Errorf("Reply(%+v) = %+v, %x, %d", r, next, packet, e)
	}
}

// wantTake asks Take, holds what it answers to be right, and hands it on.
func wantTake(t *testing.T, r api.Receiver, b []byte, want api.Receiver, wantHad []byte, wantE api.Errno) api.Receiver {
	t.Helper()
	got, had, e := recv.Take(r, b)
	if !same(got, want) || !bytes.Equal(had, wantHad) || e != wantE {
		t.Fatalf("Take(%+v, %x) = %+v, %x, %d, not %+v, %x, %d", r, b, got, had, e, want, wantHad, wantE)
	}
	wantRight(t, got)
	return got
}

// byText holds Take to the chapter's text, and tells what it answered.
func byText(t *testing.T, r api.Receiver, d api.Data) (next api.Receiver, had []byte, e api.Errno) {
	t.Helper()
	want, had, e := took(t, r, d)
	return wantTake(t, r, packetOf(t, d), want, had, e), had, e
}

// wantTook holds Take to the chapter's text, and to the error that is named here.
func wantTook(t *testing.T, r api.Receiver, d api.Data, wantE api.Errno) (next api.Receiver, had []byte) {
	t.Helper()
	next, had, e := byText(t, r, d)
	if e != wantE {
		t.Fatalf("%+v, %+v: the text says %d, not %d", r, d, e, wantE)
	}
	return next, had
}

// wantTold takes the rest of the block b, which was heard all but for its last symbol, and holds it to be had.
func wantTold(t *testing.T, r api.Receiver, b []byte) api.Receiver {
	t.Helper()
	r = copyOf(r)
	h, packet := almost(t, r.Config, b)
	at := h.Seq - r.Next
	r.Hears[at] = h
	want := copyOf(r)
	want.Hears[at] = done(r.Config, b)
	want.Hears[at].Round = h.Round
	return wantTake(t, r, packet, goneOn(want), b, api.OK)
}

// wantBad asks Take of bytes that are no packet.
func wantBad(t *testing.T, r api.Receiver, b []byte, wantE api.Errno) api.Receiver {
	t.Helper()
	return wantTake(t, r, b, changed(r, func(r *api.Receiver) { r.Bad = oneMore(r.Bad) }), nil, wantE)
}

// wantReceived holds Receive to the chapter's text, and to the error that is named here.
func wantReceived(t *testing.T, r api.Receiver, wantE api.Errno) (next api.Receiver, msg []byte) {
	t.Helper()
	want, wantMsg, e := received(r)
	if e != wantE {
		t.Fatalf("%+v: the text says %d, not %d", r, e, wantE)
	}
	got, msg, e := recv.Receive(r)
	if !same(got, want) || !bytes.Equal(msg, wantMsg) || e != wantE {
		t.Fatalf("Receive(%+v) = %+v, %x, %d, not %+v, %x, %d", r, got, msg, e, want, wantMsg, wantE)
	}
	wantRight(t, got)
	return got, msg
}

// wantReply holds Reply to the chapter's text, and to the bits that are named here.
func wantReply(t *testing.T, r api.Receiver, bits uint32) api.Receiver {
	t.Helper()
	want := changed(r, func(r *api.Receiver) { r.Clock = oneMore(r.Clock) })
	got, packet, e := recv.Reply(r)
	if !same(got, want) || !bytes.Equal(packet, ackBytes(r.Next, bits)) || e != api.OK {
		t.Fatalf("Reply(%+v) = %+v, %x, %d, not %+v, %d with %b", r, got, packet, e, want, r.Next, bits)
	}
	if a, e := ack.Read(packet); a != (api.Ack{Next: r.Next, Bits: bits}) || e != api.OK {
		t.Errorf("%x is %+v, %d", packet, a, e)
	}
	wantRight(t, got)
	return got
}

// bitsByText are the bits of a Reply of r.
func bitsByText(r api.Receiver) uint32 {
	var bits, bit uint32 = 0, 1
	for _, h := range r.Hears {
		if h.Done {
			bits += bit
		}
		bit *= 2
	}
	return bits
}

// rightReceivers are Receivers at their edges, and some between.
func rightReceivers(t *testing.T) []api.Receiver {
	t.Helper()
	c, low, high := plain(), least(), greatest()
	part, _ := almost(t, c, blockBytes(c, 5, 0, text(2, 1)))
	list := []api.Receiver{
		fresh(c, 0),
		fresh(low, 0),
		fresh(high, 0),
		had(fresh(c, 3), map[int]int{4: 1, 6: 3}),
		had(fresh(c, 3), map[int]int{4: 0, 5: 2, 6: 3}),
		changed(fresh(c, 3), func(r *api.Receiver) { r.Hears[2] = part }),
		had(opened(queued(fresh(c, 3), 2), 5), map[int]int{3: 2, 4: 3}),
		had(queued(fresh(c, 3), 2), map[int]int{3: 3, 4: 1, 5: 2, 6: 3}),
		had(queued(fresh(low, 9), 1), map[int]int{9: 3}),
		opened(fresh(c, 3), 0),
		opened(fresh(c, 3), api.MaxBytes-1),
		opened(fresh(c, 3), api.MaxBytes),
		queued(fresh(c, 3), 1),
		queued(fresh(c, 3), 2),
		queued(fresh(high, 3), 15),
		queued(fresh(high, 3), 16),
		changed(fresh(c, 3), func(r *api.Receiver) { r.Queue = [][]byte{text(api.MaxBytes-1, 1), text(api.MaxBytes, 2)} }),
		fresh(c, api.MaxSeq-4),
		fresh(c, api.MaxSeq-1),
		fresh(c, api.MaxSeq),
		fresh(high, api.MaxSeq),
		had(fresh(c, api.MaxSeq-3), map[int]int{api.MaxSeq - 2: 1, api.MaxSeq - 1: 2}),
		had(fresh(c, c.Seqs), map[int]int{c.Seqs + 1: 1}),
	}
	for _, r := range slices.Clone(list) {
		list = append(list,
			changed(r, func(r *api.Receiver) { r.Clock, r.Bad, r.Told = 0, 0, 0 }),
			changed(r, func(r *api.Receiver) { r.Clock, r.Bad, r.Told = api.MaxCount-1, api.MaxCount-1, api.MaxCount-1 }),
			changed(r, func(r *api.Receiver) { r.Clock, r.Bad, r.Told = api.MaxCount, api.MaxCount, api.MaxCount }),
		)
	}
	return list
}
