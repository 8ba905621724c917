package rules

import (
	"math"
	"slices"
	"testing"

	"volute/api"
	"volute/emit"
)

// sends are Configs of blocks that are sent: a right one with a short packet at a round's end, the smallest, the greatest, and two that are not right.
func sends() []api.Config {
	plain := api.Config{Bytes: 4, Beam: 5, Depth: 2, Window: 6, Qs: 7, Qr: 8, Batch: 9, Passes: 10, Msg: 30, Seqs: 1000}
	wrong := plain
	wrong.Passes = 3
	return []api.Config{
		plain,
		{Bytes: 1, Beam: 1, Depth: 1, Window: 1, Qs: 1, Qr: 1, Batch: 1, Passes: 4},
		{Bytes: 16, Beam: 16, Depth: 3, Window: 16, Qs: 16, Qr: 16, Batch: 64, Passes: 16, Msg: 200, Seqs: api.MaxSeq},
		wrong,
		{},
	}
}

// emitNumbers are e's numbers as one: 0 only if each of them is 0, and it is not acked.
func emitNumbers(e api.Emit) int {
	n := e.Seq<<22 | e.Round<<12 | e.From<<1
	if e.Acked {
		n |= 1
	}
	return n
}

func checkNewEmit(t *testing.T, c api.Config, seq int, b []byte) {
	t.Helper()
	bytes := func(b []byte) ([]byte, api.Errno) {
		e, err := emit.New(c, seq, b)
		return e.Bytes, err
	}
	numbers := func(b []byte) (int, api.Errno) {
		e, err := emit.New(c, seq, b)
		return emitNumbers(e), err
	}
	checkLists(t, "New", one(bytes), b)
	checkLists(t, "New", number(numbers), b)
}

// checkTick asks about e with the Bytes b. Both lists of an answer are told in both orders, so that each is spoilt ahead of the other one.
func checkTick(t *testing.T, c api.Config, e api.Emit, b []byte) {
	t.Helper()
	tick := func(b []byte) (api.Emit, []byte, api.Errno) {
		e := e
		e.Bytes = b
		return emit.Tick(c, e)
	}
	forward := func(in [][]byte) ([][]byte, api.Errno) {
		next, packet, err := tick(in[0])
		return [][]byte{next.Bytes, packet}, err
	}
	backward := func(in [][]byte) ([][]byte, api.Errno) {
		next, packet, err := tick(in[0])
		return [][]byte{packet, next.Bytes}, err
	}
	numbers := func(b []byte) (int, api.Errno) {
		next, _, err := tick(b)
		return emitNumbers(next), err
	}
	check := func(b []byte) (int, api.Errno) {
		e := e
		e.Bytes = b
		return 0, emit.Check(c, e)
	}
	checkLists(t, "Tick", forward, b)
	checkLists(t, "Tick", backward, b)
	checkLists(t, "Tick", number(numbers), b)
	checkLists(t, "Check", number(check), b)
}

func TestEmitNew(t *testing.T) {
	for _, c := range sends() {
		for _, seq := range []int{math.MinInt, -1, 0, 5, api.MaxSeq - 1, api.MaxSeq, math.MaxInt} {
			for n := range api.MaxBlock + 13 {
				checkNewEmit(t, c, seq, fill(n))
			}
			checkNewEmit(t, c, seq, fill(api.MaxBytes+1))
		}
	}
}

func TestEmitTick(t *testing.T) { // right ones and such that are not, within a round, at its end and behind it, acked and not
	for _, c := range sends() {
		most := (2*c.Bytes + 20) * c.Passes
		for _, seq := range []int{-1, 0, api.MaxSeq - 1, api.MaxSeq} {
			for _, round := range []int{-1, 0, 255, 256} {
				for _, from := range []int{-1, 0, 7, most - 1, most, most + 1} {
					for _, acked := range []bool{false, true} {
						e := api.Emit{Seq: seq, Round: round, From: from, Acked: acked}
						for _, n := range []int{0, 1, c.Bytes + 9, c.Bytes + 10, c.Bytes + 11} {
							checkTick(t, c, e, fill(n))
						}
					}
				}
			}
		}
	}
}

func TestEmitBehindTheLength(t *testing.T) { // more bytes in memory than are handed in, as many as would be right among them
	c := sends()[0]
	size := c.Bytes + 10
	memory := fill(3 * size)
	was := slices.Clone(memory)
	for n := range memory {
		e, err := emit.New(c, 5, memory[:n])
		next, packet, f := emit.Tick(c, api.Emit{Seq: 5, Bytes: memory[:n]})
		if n != size {
			if len(e.Bytes) != 0 || len(next.Bytes) != 0 || len(packet) != 0 || err != api.ErrArg || f != api.ErrArg {
				t.Error(n, e, next, packet, err, f)
			}
			continue
		}
		if !slices.Equal(e.Bytes, was[:n]) || !slices.Equal(next.Bytes, was[:n]) || err != api.OK || f != api.OK {
			t.Error(e, next, err, f)
		}
		spoil(e.Bytes)
		spoil(next.Bytes)
		spoil(packet)
		if !slices.Equal(memory, was) {
			t.Error("what was handed in is changed")
		}
	}
}

func TestEmitTicksApart(t *testing.T) { // a round's answers, all kept: none is touched by a later tick, nor by what is done with another one
	c := sends()[0]
	e, err := emit.New(c, 5, fill(c.Bytes+10))
	if err != api.OK {
		t.Fatal(err)
	}
	var lists [][]byte
	for range 40 {
		next, packet, err := emit.Tick(c, e)
		if err != api.OK {
			t.Fatal(err)
		}
		lists = append(lists, next.Bytes, packet)
		e = next
	}
	was := wholes(lists)
	for i := range lists {
		spoil(lists[i])
		for j := range lists {
			if j > i && !slices.Equal(whole(lists[j]), was[j]) {
				t.Fatal(i, j)
			}
		}
	}
}
