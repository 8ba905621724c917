package rules

import (
	"fmt"
	"math"
	"slices"
	"testing"

	"volute/ack"
	"volute/api"
	"volute/send"
)

// sender is a right Sender of c, with these Ends and whatever waits.
func sender(c api.Config, base int, ends ...int) api.Sender {
	s := api.Sender{Config: c, Clock: 5, Refused: 6, Bad: 7, Base: base, Next: base, Sent: len(ends), Ends: ends}
	if len(ends) > 0 {
		s.Next = ends[len(ends)-1]
	}
	for seq := base; seq < s.Next; seq++ {
		s.Waits = append(s.Waits, api.Emit{Seq: seq, Round: seq, From: seq, Acked: seq%3 == 2, Bytes: fill(c.Bytes + 10)})
	}
	return s
}

// senders are Senders: new ones, some with more blocks than their window has and with fewer, full, Closed, with counters that stay, and some that are not right, one with Waits that may not be.
func senders() []api.Sender {
	c := api.Config{Bytes: 4, Beam: 5, Depth: 2, Window: 3, Qs: 3, Qr: 8, Batch: 9, Passes: 10, Msg: 30, Seqs: 20}
	closed, stay, wrong, odd, none := sender(c, 1, 4), sender(c, 0, 2, 3), sender(c, 0, 2, 5), sender(c, 0, 2, 5), sender(c, 2, 4)
	closed.Closed = true
	stay.Clock, stay.Refused, stay.Bad = api.MaxCount, api.MaxCount, api.MaxCount
	wrong.Sent = 1
	odd.Waits[3].Bytes = fill(3)
	none.Config = api.Config{}
	return []api.Sender{{Config: c}, sender(c, 7), sender(c, 0, 1), sender(c, 2, 4, 5, 9), sender(c, 4, 8, 18), sender(c, 19, 20), closed, stay, wrong, odd, none, {}}
}

// otherEmit is an Emit for the room behind a list, with Bytes of its own.
func otherEmit(n int) api.Emit {
	return api.Emit{Seq: n, Round: n, From: n, Acked: true, Bytes: fill(n)}
}

// roomySender is a copy of s, with room behind the length of each of its lists that is filled with n.
func roomySender(s api.Sender, n int) api.Sender {
	s.Ends = roomy([][]int{s.Ends}, n)[0]
	l := make([]api.Emit, len(s.Waits), len(s.Waits)+room)
	for i, w := range s.Waits {
		w.Bytes = roomy([][]byte{w.Bytes}, n)[0]
		l[i] = w
	}
	for i := len(l); i < cap(l); i++ {
		whole(l)[i] = otherEmit(n)
	}
	s.Waits = l
	return s
}

// senderNumbers are s's numbers, and what lists it has, by what lies within their lengths; of whole ones what lies behind them, too.
func senderNumbers(s api.Sender, isWhole bool) []int {
	l := []int{s.Clock, s.Refused, s.Bad, s.Sent, s.Next, s.Base, len(s.Ends), len(s.Waits), len(asNumbers(s.Closed)), s.Config.Bytes, s.Config.Beam, s.Config.Depth, s.Config.Window, s.Config.Qs, s.Config.Qr, s.Config.Batch, s.Config.Passes, s.Config.Msg, s.Config.Seqs}
	ends, waits := s.Ends, s.Waits
	if isWhole {
		ends, waits = whole(ends), whole(waits)
	}
	l = append(l, ends...)
	for _, w := range waits {
		b := w.Bytes
		if isWhole {
			b = whole(b)
		}
		l = append(l, w.Seq, w.Round, w.From, len(asNumbers(w.Acked)), len(w.Bytes))
		l = append(l, asInts(b)...)
	}
	return l
}

// sendAnswer is what a call answers.
type sendAnswer struct {
	next    api.Sender
	packets [][]byte
	e       api.Errno
}

func (a sendAnswer) numbers(isWhole bool) []int {
	l := append(senderNumbers(a.next, isWhole), int(a.e), len(a.packets))
	packets := a.packets
	if isWhole {
		packets = whole(packets)
	}
	for _, p := range packets {
		l = append(l, len(p))
		if isWhole {
			p = whole(p)
		}
		l = append(l, asInts(p)...)
	}
	return l
}

func spoilEmits(l []api.Emit) {
	for i := range whole(l) {
		w := &whole(l)[i]
		*w = api.Emit{Seq: ^w.Seq, Round: ^w.Round, From: ^w.From, Acked: !w.Acked, Bytes: w.Bytes}
	}
}

// spoilSender writes all over each list of s.
func spoilSender(s api.Sender) {
	spoil(s.Ends)
	for _, w := range whole(s.Waits) {
		spoil(w.Bytes)
	}
	spoilEmits(s.Waits)
}

// changes is how many numbers of a and b, which are as many, differ.
func changes(a, b []int) int {
	n := 0
	for i := range a {
		if a[i] != b[i] {
			n++
		}
	}
	return n
}

// checkSends holds call to R2, R4 and R6, as checkLists does for lists whose elements have no memory of their own.
func checkSends(t *testing.T, name string, s api.Sender, b []byte, call func(api.Sender, []byte) sendAnswer) {
	t.Helper()
	given, text := roomySender(s, 1), roomy([][]byte{b}, 1)[0]
	was, before := senderNumbers(given, true), slices.Clone(whole(text))
	isSame := func() bool {
		return slices.Equal(senderNumbers(given, true), was) && slices.Equal(whole(text), before)
	}
	first := call(given, text)
	want := first.numbers(false)
	second := call(given, text)
	kept := second.numbers(true)
	if other := call(roomySender(s, 2), roomy([][]byte{b}, 2)[0]); !slices.Equal(other.numbers(false), want) || !slices.Equal(other.numbers(true), kept) {
		t.Errorf("%s: the answer hangs on what lies behind a length", name)
	}
	if !isSame() {
		t.Errorf("%s: what was handed in is changed", name)
	}
	checkListsApart(t, name, first)
	if !isSame() {
		t.Errorf("%s: the answer shares memory with what was handed in", name)
	}
	third := call(given, text)
	if !slices.Equal(second.numbers(true), kept) || !slices.Equal(third.numbers(false), want) {
		t.Errorf("%s: one answer is touched by another one", name)
	}
	spoilSender(given)
	spoil(text)
	if !slices.Equal(second.numbers(true), kept) {
		t.Errorf("%s: the answer changes with what was handed in", name)
	}
}

// checkListsApart spoils the lists of an answer, one by one, and holds all others to stay as they are; at the end all of them are spoilt.
func checkListsApart(t *testing.T, name string, a sendAnswer) {
	t.Helper()
	l := [][]byte{}
	for _, w := range whole(a.next.Waits) {
		l = append(l, w.Bytes)
	}
	l = append(l, whole(a.packets)...)
	was := wholes(l)
	for i := range l {
		spoil(l[i])
		was[i] = slices.Clone(whole(l[i]))
		if !equal(wholes(l), was) {
			t.Errorf("%s: two lists of one answer share memory", name)
		}
	}
	numbers := a.numbers(true)
	spoil(a.next.Ends)
	if changes(a.numbers(true), numbers) != cap(a.next.Ends) {
		t.Errorf("%s: Ends share memory with another list", name)
	}
	spoilEmits(a.next.Waits)
	for i := range whole(a.packets) {
		whole(a.packets)[i] = []byte("other")
	}
}

// checkSender asks each call about s, with b as a message and as a packet.
func checkSender(t *testing.T, name string, s api.Sender, b []byte) {
	t.Helper()
	calls := map[string]func(api.Sender, []byte) sendAnswer{
		"Send": func(s api.Sender, b []byte) sendAnswer {
			next, e := send.Send(s, b)
			return sendAnswer{next: next, e: e}
		},
		"Close": func(s api.Sender, _ []byte) sendAnswer {
			next, e := send.Close(s)
			return sendAnswer{next: next, e: e}
		},
		"Tick": func(s api.Sender, _ []byte) sendAnswer {
			next, packets, e := send.Tick(s)
			return sendAnswer{next, packets, e}
		},
		"Learn": func(s api.Sender, b []byte) sendAnswer {
			next, e := send.Learn(s, b)
			return sendAnswer{next: next, e: e}
		},
		"Check and Confirmed": func(s api.Sender, _ []byte) sendAnswer {
			return sendAnswer{next: api.Sender{Sent: send.Confirmed(s)}, e: send.Check(s)}
		},
	}
	nothing := sendAnswer{e: api.ErrArg}.numbers(false)
	for called, call := range calls {
		whose := fmt.Sprintf("%s of %s with %d bytes", called, name, len(b))
		checkSends(t, whose, s, b, call)
		if a := call(s, b); send.Check(s) != api.OK && !slices.Equal(a.numbers(false), nothing) {
			t.Errorf("%s: %v beside an error", whose, a)
		}
		checkSendsOfNothing(t, whose, s, b, call)
	}
}

// checkSendsOfNothing holds call to R2's last words: nil and an empty list mean the same.
func checkSendsOfNothing(t *testing.T, name string, s api.Sender, b []byte, call func(api.Sender, []byte) sendAnswer) {
	t.Helper()
	bare, empty := s, s
	if len(s.Ends) == 0 {
		bare.Ends, empty.Ends = nil, []int{}
	}
	if len(s.Waits) == 0 {
		bare.Waits, empty.Waits = nil, []api.Emit{}
	}
	without, with := b, b
	if len(b) == 0 {
		without, with = nil, []byte{}
	}
	if !slices.Equal(call(bare, without).numbers(false), call(empty, with).numbers(false)) {
		t.Errorf("%s: nil and an empty list differ", name)
	}
}

// acks are packets that tell each end something: what may be learnt, what is old, what is too far ahead.
func acks(t *testing.T, most int) [][]byte {
	t.Helper()
	var l [][]byte
	for next := range most + 1 {
		for _, bits := range []uint32{0, 1, 5, math.MaxUint32} {
			b, e := ack.Make(api.Ack{Next: next, Bits: bits})
			if e != api.OK {
				t.Fatal(e)
			}
			l = append(l, b)
		}
	}
	return l
}

func TestSender(t *testing.T) { // messages of no byte, of one block, of several, too long ones; packets that are acks, that are none
	texts := [][]byte{{}, fill(1), fill(4), fill(5), fill(13), fill(30), fill(31), fill(api.MaxBytes + 1)}
	for i, s := range senders() {
		for _, b := range append(texts, acks(t, 21)...) {
			checkSender(t, fmt.Sprint("the Sender ", i), s, b)
		}
	}
}

func TestSendNew(t *testing.T) {
	for _, c := range hears() {
		a, e := send.New(c)
		b, f := send.New(c)
		if (e == api.OK) != (f == api.OK) || !slices.Equal(sendAnswer{next: a}.numbers(true), sendAnswer{next: b}.numbers(true)) {
			t.Error(c, a, b)
		}
		if e != api.OK && !slices.Equal(senderNumbers(a, true), senderNumbers(api.Sender{}, true)) {
			t.Error(c, a, e)
		}
	}
}

func TestSendSharedBytes(t *testing.T) { // Waits that share one memory are told with Bytes each
	for _, s := range senders()[2:8] {
		b := fill(s.Config.Bytes + 10)
		for i := range s.Waits {
			s.Waits[i].Bytes = b
		}
		next, packets, e := send.Tick(s)
		if e != api.OK {
			t.Fatal(e)
		}
		checkListsApart(t, "Tick", sendAnswer{next, packets, e})
		next, e = send.Close(s)
		checkListsApart(t, "Close", sendAnswer{next: next, e: e})
		next, e = send.Send(s, fill(7))
		checkListsApart(t, "Send", sendAnswer{next: next, e: e})
		next, e = send.Learn(s, acks(t, s.Next)[4*s.Base+1])
		checkListsApart(t, "Learn", sendAnswer{next: next, e: e})
		next, e = send.Learn(s, nil)
		checkListsApart(t, "Learn", sendAnswer{next: next, e: e})
		if !slices.Equal(b, fill(len(b))) {
			t.Error("what was handed in is changed")
		}
	}
}

func TestSendBehindTheLength(t *testing.T) { // right Ends and Waits lie behind the lengths: they are none of the Sender's
	c := senders()[0].Config
	s := sender(c, 2, 4, 5, 9)
	was := senderNumbers(s, true)
	for n := range 4 {
		for k := range 8 {
			cut := s
			cut.Ends, cut.Waits = s.Ends[:n], s.Waits[:k]
			cut.Next = cut.Base + k
			want := api.ErrArg
			if n == 0 && k == 0 || n > 0 && s.Ends[n-1] == cut.Next {
				want = api.OK
			}
			cut.Sent = n
			if e := send.Check(cut); e != want {
				t.Error(n, k, e)
			}
			sent, _ := send.Send(cut, fill(9))
			ticked, packets, _ := send.Tick(cut)
			closed, _ := send.Close(cut)
			for _, a := range []sendAnswer{{next: sent}, {next: ticked, packets: packets}, {next: closed}} {
				checkListsApart(t, "behind the length", a)
			}
			if !slices.Equal(senderNumbers(s, true), was) {
				t.Fatal(n, k, "what was handed in is changed")
			}
		}
	}
}

func TestSendsApart(t *testing.T) { // all answers of a script, kept: none is touched by a later call, nor by what is done with another one
	s := senders()[0]
	var list []sendAnswer
	keep := func(next api.Sender, packets [][]byte, e api.Errno) {
		list = append(list, sendAnswer{next, packets, e})
		s = next
	}
	learn := func(b []byte) {
		next, e := send.Learn(s, b)
		keep(next, nil, e)
	}
	for i := range 40 {
		next, e := send.Send(s, fill(i%20))
		keep(next, nil, e)
		keep(send.Tick(s))
		keep(send.Tick(s))
		learn(fill(13))
		learn(acks(t, s.Next)[4*((s.Base+s.Next+1)/2)+1])
	}
	var was [][]int
	for _, a := range list {
		was = append(was, a.numbers(true))
	}
	for i, a := range list {
		checkListsApart(t, "a script", a)
		for j := i + 1; j < len(list); j++ {
			if !slices.Equal(list[j].numbers(true), was[j]) {
				t.Fatal(i, j)
			}
		}
	}
}
