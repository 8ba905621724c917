package rules

import (
	"fmt"
	"slices"
	"testing"

	"volute/api"
	"volute/block"
	"volute/code"
	"volute/data"
	"volute/hear"
	"volute/recv"
)

// recvConfig is that of the Receivers here: a block has 22 segments.
func recvConfig() api.Config {
	return api.Config{Bytes: 1, Beam: 2, Depth: 1, Window: 4, Qs: 3, Qr: 2, Batch: 9, Passes: 4, Msg: 30, Seqs: 20}
}

// madeBlock are the bytes of a block of one byte.
func madeBlock(t *testing.T, c api.Config, seq, mark int) []byte {
	t.Helper()
	b, e := block.Make(c.Bytes, api.Block{Seq: seq, Mark: mark, Text: fill(1)})
	if e != api.OK {
		t.Fatal(e)
	}
	return b
}

// receiver is a right Receiver of recvConfig, from the block 3 on: with an open message of so many bytes (below 0: none), with messages of these lengths that wait, and with these blocks told, by their marks (-1: heard but for the last symbol of four passes, -2: not at all).
func receiver(t *testing.T, open int, queue []int, marks ...int) api.Receiver {
	t.Helper()
	c := recvConfig()
	r := api.Receiver{Config: c, Clock: 5, Bad: 6, Told: 7, Next: 3}
	for i, mark := range marks {
		h, e := hear.New(c, r.Next+i)
		if e != api.OK {
			t.Fatal(e)
		}
		switch mark {
		case -2:
		case -1:
			row, e := code.Encode(madeBlock(t, c, h.Seq, api.First), 0, 87)
			if e != api.OK {
				t.Fatal(e)
			}
			h.Round, h.Pile.Syms = 4, asSyms(row)
		default:
			h.Round, h.Done, h.Bytes = 4, true, madeBlock(t, c, h.Seq, mark)
		}
		r.Hears = append(r.Hears, h)
	}
	if open >= 0 {
		r.Join = api.Join{Open: true, Text: fill(open)}
	}
	for _, n := range queue {
		r.Queue = append(r.Queue, fill(n))
	}
	return r
}

// receivers are Receivers: a new one, some that go on far and some that stop, with messages that wait and none, with counters that stay, and some that are not right.
func receivers(t *testing.T) []api.Receiver {
	t.Helper()
	first, e := recv.New(recvConfig())
	if e != api.OK {
		t.Fatal(e)
	}
	stay := receiver(t, -1, []int{3, 2}, 3, -1, 1, -2)
	stay.Clock, stay.Bad, stay.Told = api.MaxCount, api.MaxCount, api.MaxCount
	clock, join, long, config := receiver(t, 5, []int{3}, -1, 3, 3, 0), receiver(t, 5, nil, -1, 3, 3, 0), receiver(t, 5, []int{3, api.MaxBytes + 1}, 2, 3, 3, 0), receiver(t, 5, []int{3, 2}, 2, 3, 3, 0)
	clock.Clock = -1
	join.Join.Open = false
	config.Config = api.Config{}
	return []api.Receiver{
		first,
		receiver(t, -1, nil, -2, -2, -2, -2),
		receiver(t, -1, nil, -1, -2, -1, -2),
		receiver(t, -1, []int{0}, -1, 3, 1, -1),
		receiver(t, 9, []int{4, 0}, -1, 0, 0, 0),
		receiver(t, 9, []int{4, 5}, 2, 3, 1, -1),
		receiver(t, 0, []int{4, 5}, 3, 1, 2, -1),
		receiver(t, api.MaxBytes, []int{api.MaxBytes, 5}, -1, 2, 3, -2),
		receiver(t, api.MaxBytes, []int{1, 5}, 2, 2, 3, -1),
		stay, clock, join, long, config, {},
	}
}

// otherHear is a Hear for the room behind a list, with lists of its own.
func otherHear(n int) api.Hear {
	return api.Hear{Seq: n, Round: n, Pile: api.Pile{N: n, Passes: n, Syms: asSyms(fill(n))}, Done: true, Bytes: fill(n)}
}

// roomyReceiver is a copy of r, with room behind the length of each of its lists that is filled with n.
func roomyReceiver(r api.Receiver, n int) api.Receiver {
	l := make([]api.Hear, len(r.Hears), len(r.Hears)+room)
	for i, h := range r.Hears {
		h.Pile.Syms = roomy([][]api.Sym{h.Pile.Syms}, n)[0]
		h.Bytes = roomy([][]byte{h.Bytes}, n)[0]
		l[i] = h
	}
	queue := append(roomy(r.Queue, n), make([][]byte, room)...)[:len(r.Queue)]
	for i := len(l); i < cap(l); i++ {
		whole(l)[i] = otherHear(n)
	}
	for i := len(queue); i < cap(queue); i++ {
		whole(queue)[i] = fill(n)
	}
	r.Hears, r.Queue = l, queue
	r.Join.Text = roomy([][]byte{r.Join.Text}, n)[0]
	return r
}

// recvAnswer is what a call answers: b is the block, the message or the packet.
type recvAnswer struct {
	next api.Receiver
	b    []byte
	e    api.Errno
}

// bytes are all lists of bytes that a tells, those behind the lengths too.
func (a recvAnswer) bytes() [][]byte {
	l := [][]byte{a.b, a.next.Join.Text}
	for _, h := range whole(a.next.Hears) {
		l = append(l, h.Bytes)
	}
	return append(l, whole(a.next.Queue)...)
}

// syms are all lists of symbols that a tells, those behind the lengths too.
func (a recvAnswer) syms() [][]api.Sym {
	var l [][]api.Sym
	for _, h := range whole(a.next.Hears) {
		l = append(l, h.Pile.Syms)
	}
	return l
}

// cutTo is l without what lies behind its length, unless it is to be told whole.
func cutTo[T any](l []T, isWhole bool) []T {
	if isWhole {
		return whole(l)
	}
	return l
}

// numbers are a's numbers, and what lists it has, by what lies within their lengths; of whole ones what lies behind them, too.
func (a recvAnswer) numbers(isWhole bool) []int {
	r := a.next
	c := r.Config
	l := []int{int(a.e), r.Clock, r.Bad, r.Next, r.Told, len(r.Hears), len(r.Queue), len(asNumbers(r.Join.Open)), c.Bytes, c.Beam, c.Depth, c.Window, c.Qs, c.Qr, c.Batch, c.Passes, c.Msg, c.Seqs}
	text := func(b []byte) {
		l = append(l, len(b))
		l = append(l, asInts(cutTo(b, isWhole))...)
	}
	text(a.b)
	text(r.Join.Text)
	for _, msg := range cutTo(r.Queue, isWhole) {
		text(msg)
	}
	for _, h := range cutTo(r.Hears, isWhole) {
		l = append(l, h.Seq, h.Round, h.Pile.N, h.Pile.Passes, len(asNumbers(h.Done)), len(h.Pile.Syms))
		text(h.Bytes)
		for _, x := range cutTo(h.Pile.Syms, isWhole) {
			l = append(l, x.At, x.Value)
		}
	}
	return l
}

// spoil writes all over each list of a.
func (a recvAnswer) spoil() {
	for _, l := range a.bytes() {
		spoil(l)
	}
	for _, l := range a.syms() {
		spoil(l)
	}
	for i := range whole(a.next.Hears) {
		whole(a.next.Hears)[i] = otherHear(9)
	}
	for i := range whole(a.next.Queue) {
		whole(a.next.Queue)[i] = fill(9)
	}
}

// checkInnerApart spoils lists of an answer, one by one, and holds all others of them to stay as they are.
func checkInnerApart[T element](t *testing.T, name string, lists [][]T) {
	t.Helper()
	was := wholes(lists)
	for i := range lists {
		spoil(lists[i])
		was[i] = slices.Clone(whole(lists[i]))
		if !equal(wholes(lists), was) {
			t.Errorf("%s: two lists of one answer share memory", name)
		}
	}
}

// recvCall is a call about a Receiver, with a packet, if it takes one.
type recvCall func(r api.Receiver, b []byte) recvAnswer

// checkRecvs holds call to R2, R4 and R6, as checkLists does for lists whose elements have no memory of their own.
func checkRecvs(t *testing.T, name string, r api.Receiver, b []byte, call recvCall) {
	t.Helper()
	given := recvAnswer{next: roomyReceiver(r, 1), b: roomy([][]byte{b}, 1)[0]}
	was := given.numbers(true)
	ask := func() recvAnswer { return call(given.next, given.b) }
	first := ask()
	want := first.numbers(false)
	second := ask()
	kept := second.numbers(true)
	if other := call(roomyReceiver(r, 2), roomy([][]byte{b}, 2)[0]); !slices.Equal(other.numbers(false), want) || !slices.Equal(other.numbers(true), kept) {
		t.Errorf("%s: the answer hangs on what lies behind a length", name)
	}
	if !slices.Equal(given.numbers(true), was) {
		t.Errorf("%s: what was handed in is changed", name)
	}
	checkInnerApart(t, name, first.bytes())
	checkInnerApart(t, name, first.syms())
	first.spoil()
	if !slices.Equal(given.numbers(true), was) {
		t.Errorf("%s: the answer shares memory with what was handed in", name)
	}
	third := ask()
	if !slices.Equal(second.numbers(true), kept) || !slices.Equal(third.numbers(false), want) {
		t.Errorf("%s: one answer is touched by another one", name)
	}
	given.spoil()
	if !slices.Equal(second.numbers(true), kept) {
		t.Errorf("%s: the answer changes with what was handed in", name)
	}
}

// recvCalls are the calls of the layer that are handed a Receiver.
func recvCalls() map[string]recvCall {
	return map[string]recvCall{
		"Take": func(r api.Receiver, b []byte) recvAnswer {
			next, had, e := recv.Take(r, b)
			return recvAnswer{next, had, e}
		},
		"Receive": func(r api.Receiver, _ []byte) recvAnswer {
			next, msg, e := recv.Receive(r)
			return recvAnswer{next, msg, e}
		},
		"Reply": func(r api.Receiver, _ []byte) recvAnswer {
			next, packet, e := recv.Reply(r)
			return recvAnswer{next, packet, e}
		},
		"Check": func(r api.Receiver, _ []byte) recvAnswer {
			return recvAnswer{e: recv.Check(r)}
		},
	}
}

// checkReceiver asks each call about r, with b as a packet.
func checkReceiver(t *testing.T, name string, r api.Receiver, b []byte) {
	t.Helper()
	nothing := recvAnswer{e: api.ErrArg}.numbers(true)
	for called, call := range recvCalls() {
		whose := fmt.Sprintf("%s of %s with %x", called, name, b)
		checkRecvs(t, whose, r, b, call)
		a := call(r, b)
		if recv.Check(r) != api.OK && !slices.Equal(a.numbers(true), nothing) {
			t.Errorf("%s: %v beside an error", whose, a)
		}
		if a.e != api.OK && len(a.b) != 0 {
			t.Errorf("%s: %x beside an error", whose, a.b)
		}
		checkRecvsOfNothing(t, whose, r, b, call)
	}
}

// bareOr is nothing instead of a list without elements, or an empty list instead of it.
func bareOr[T any](l []T, isBare bool) []T {
	switch {
	case len(l) != 0:
		return l
	case isBare:
		return nil
	}
	return []T{}
}

// checkRecvsOfNothing holds call to R2's last words: nil and an empty list mean the same.
func checkRecvsOfNothing(t *testing.T, name string, r api.Receiver, b []byte, call recvCall) {
	t.Helper()
	ask := func(isBare bool) []int {
		r := r
		r.Hears = bareOr(slices.Clone(r.Hears), isBare)
		for i := range r.Hears {
			h := &r.Hears[i]
			h.Pile.Syms, h.Bytes = bareOr(h.Pile.Syms, isBare), bareOr(h.Bytes, isBare)
		}
		r.Queue = bareOr(slices.Clone(r.Queue), isBare)
		for i := range r.Queue {
			r.Queue[i] = bareOr(r.Queue[i], isBare)
		}
		r.Join.Text = bareOr(r.Join.Text, isBare)
		return call(r, bareOr(b, isBare)).numbers(false)
	}
	if !slices.Equal(ask(true), ask(false)) {
		t.Errorf("%s: nil and an empty list differ", name)
	}
}

// recvPackets are packets for the Receivers here: such that tell a block, or nothing, that are old or too far ahead, and bytes that are none.
func recvPackets(t *testing.T) [][]byte {
	t.Helper()
	c := recvConfig()
	list := [][]byte{{}, fill(1), fill(12), fill(75), fill(api.MaxBytes + 1)}
	for seq := range 9 {
		row, e := code.Encode(madeBlock(t, c, seq, api.First), 0, 88)
		if e != api.OK {
			t.Fatal(e)
		}
		for _, d := range []api.Data{{Seq: seq, Round: 4, From: 87, Syms: row[87:]}, {Seq: seq, Round: 4, Syms: row[:5]}, {Seq: seq, Round: 5, Syms: row[:64]}} {
			b, e := data.Make(d)
			if e != api.OK {
				t.Fatal(e)
			}
			list = append(list, b)
		}
	}
	return list
}

func TestReceiver(t *testing.T) {
	for i, r := range receivers(t) {
		for _, b := range recvPackets(t) {
			checkReceiver(t, fmt.Sprint("the Receiver ", i), r, b)
		}
	}
}

func TestReceiversTell(t *testing.T) { // what is asked above tells blocks, goes on and stops
	tells, goes, stops := 0, 0, 0
	for _, r := range receivers(t) {
		for _, b := range recvPackets(t) {
			next, had, e := recv.Take(r, b)
			switch {
			case e != api.OK || len(had) == 0:
			case next.Next > r.Next+1:
				goes++
				tells++
			case next.Hears[0].Done:
				stops++
				tells++
			default:
				tells++
			}
		}
	}
	if tells < 20 || goes < 3 || stops < 3 {
		t.Error(tells, goes, stops)
	}
}

func TestRecvNew(t *testing.T) {
	nothing := recvAnswer{e: api.ErrArg}.numbers(true)
	for _, c := range hears() {
		ask := func() recvAnswer {
			r, e := recv.New(c)
			return recvAnswer{next: r, e: e}
		}
		first, second := ask(), ask()
		was := second.numbers(true)
		if !slices.Equal(first.numbers(true), was) || first.e != api.OK && !slices.Equal(was, nothing) {
			t.Error(c, first, second)
		}
		checkInnerApart(t, "New", first.bytes())
		checkInnerApart(t, "New", first.syms())
		first.spoil()
		if !slices.Equal(second.numbers(true), was) || !slices.Equal(ask().numbers(true), was) {
			t.Error(c, "one answer is touched by another one")
		}
	}
}

func TestRecvSharedMemory(t *testing.T) { // lists that share one memory are told with memory each
	for i, r := range receivers(t)[:10] {
		memory, syms := fill(40), asSyms(fill(88))
		wasBytes, wasSyms := slices.Clone(memory), slices.Clone(syms)
		for k := range r.Queue {
			r.Queue[k] = memory[k : 5+k]
		}
		if r.Join.Open {
			r.Join.Text = memory[:20]
		}
		for k := range r.Hears {
			if h := &r.Hears[k]; !h.Done && h.Round != -1 {
				h.Pile.Syms = syms
			}
		}
		for _, b := range recvPackets(t) {
			for called, call := range recvCalls() {
				a := call(r, b)
				name := fmt.Sprint(called, " of the Receiver ", i)
				if recv.Check(r) != api.OK {
					t.Fatal(name)
				}
				checkInnerApart(t, name, a.bytes())
				checkInnerApart(t, name, a.syms())
				a.spoil()
			}
		}
		if !slices.Equal(memory, wasBytes) || !slices.Equal(syms, wasSyms) {
			t.Error(i, "what was handed in is changed")
		}
	}
}

func TestRecvBehindTheLength(t *testing.T) { // right Hears, messages and bytes of an open message lie behind the lengths: they are none of the Receiver's
	r := receiver(t, 9, []int{4, 5}, 2, 3, 1, -1)
	was := recvAnswer{next: r}.numbers(true)
	for n := range len(r.Hears) + 1 {
		for k := range len(r.Queue) + 1 {
			cut := r
			cut.Hears, cut.Queue, cut.Join.Text = r.Hears[:n], r.Queue[:k], r.Join.Text[:n]
			want := api.OK
			if n < len(r.Hears) {
				want = api.ErrArg
			}
			if e := recv.Check(cut); e != want {
				t.Error(n, k, e)
			}
			for _, b := range recvPackets(t) {
				for _, call := range recvCalls() {
					call(cut, b).spoil()
				}
			}
			if !slices.Equal(recvAnswer{next: r}.numbers(true), was) {
				t.Fatal(n, k, "what was handed in is changed")
			}
		}
	}
	full := r
	full.Queue = r.Queue[:1] // what is queued is not written behind the length of what was handed in
	next, msg, e := recv.Receive(full)
	if len(next.Queue) != 2 || len(msg) != 4 || e != api.OK || !slices.Equal(recvAnswer{next: r}.numbers(true), was) {
		t.Error(next, msg, e)
	}
}

func TestRecvsApart(t *testing.T) { // all answers of a script, kept: none is touched by a later call, nor by what is done with another one
	r, e := recv.New(recvConfig())
	if e != api.OK {
		t.Fatal(e)
	}
	var list []recvAnswer
	keep := func(next api.Receiver, b []byte, e api.Errno) {
		list = append(list, recvAnswer{next, b, e})
		r = next
	}
	marks := []int{api.First, 0, api.Last, 3, 3}
	for seq := range 15 {
		row, e := code.Encode(madeBlock(t, r.Config, seq, marks[seq%5]), 0, 88)
		if e != api.OK {
			t.Fatal(e)
		}
		for from := 0; from < 88; from += 22 {
			b, e := data.Make(api.Data{Seq: seq, From: from, Syms: row[from : from+22]})
			if e != api.OK {
				t.Fatal(e)
			}
			keep(recv.Take(r, b))
		}
		keep(recv.Reply(r))
		keep(recv.Take(r, fill(seq)))
		if seq%3 == 2 {
			keep(recv.Receive(r))
		}
	}
	if r.Told < 6 {
		t.Fatal(r)
	}
	var was [][]int
	for _, a := range list {
		was = append(was, a.numbers(true))
	}
	for i, a := range list {
		checkInnerApart(t, "a script", a.bytes())
		checkInnerApart(t, "a script", a.syms())
		a.spoil()
		for j := i + 1; j < len(list); j++ {
			if !slices.Equal(list[j].numbers(true), was[j]) {
				t.Fatal(i, j)
			}
		}
	}
}
