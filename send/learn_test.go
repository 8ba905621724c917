package send_test

import (
	"bytes"
	"math"
	"slices"
	"testing"

	"volute/api"
	"volute/send"
)

// patterns are Bits: none, each alone, all, some.
func patterns() []uint32 {
	list := []uint32{0, math.MaxUint32, math.MaxUint32 - 1, 3, 6, 0x0f0f0f0f, 0xaaaaaaaa, 0x55555555, 0xffff0000, 0x0000ffff}
	for i := range 32 {
		list = append(list, 1<<i)
	}
	return list
}

func TestLearn(t *testing.T) { // P22.4: each Sender, each Next from just below Base to just behind Waits, all kinds of Bits
	for _, s := range rightSenders() {
		for next := max(0, s.Base-1); next <= min(s.Next+1, api.MaxSeq); next++ {
			want := api.OK
			switch {
			case next < s.Base:
				want = api.ErrOld
			case next > s.Next:
				want = api.ErrFar
			}
			for _, bits := range patterns() {
				wantLearnt(t, s, next, bits, want)
			}
		}
	}
}

func TestLearnNextBesideEdges(t *testing.T) { // P22.4: at Base - 1, at Base, at the end of Waits, one beyond it, and far off
	s := made(plain(), 5, 6, 9, 10, 12)
	for next, want := range map[int]api.Errno{
		0: api.ErrOld, 1: api.ErrOld, 4: api.ErrOld,
		5: api.OK, 6: api.OK, 11: api.OK, 12: api.OK,
		13: api.ErrFar, 40: api.ErrFar, 41: api.ErrFar, 1 << 20: api.ErrFar, api.MaxSeq - 1: api.ErrFar, api.MaxSeq: api.ErrFar,
	} {
		for _, bits := range patterns() {
			wantLearnt(t, s, next, bits, want)
		}
	}
	for _, s := range []api.Sender{{Config: plain()}, made(plain(), 3)} {
		wantLearnt(t, s, s.Base, math.MaxUint32, api.OK)
		wantLearnt(t, s, s.Base+1, 0, api.ErrFar)
	}
	wantLearnt(t, made(greatest(), api.MaxSeq), api.MaxSeq, 1, api.OK)
	wantLearnt(t, made(greatest(), api.MaxSeq), api.MaxSeq-1, 1, api.ErrOld)
	wantLearnt(t, made(greatest(), api.MaxSeq-5, api.MaxSeq-2, api.MaxSeq), api.MaxSeq, 1, api.OK)
}

func TestOldAndFarCountNothing(t *testing.T) { // P22.4: s as it was, Bad too
	s := acked(made(plain(), 5, 6, 9, 10, 12), 1)
	for _, next := range []int{0, 4, 13, 100} {
		got, e := send.Learn(s, packetOf(t, next, math.MaxUint32))
		if !same(got, s) || got.Bad != 7 || e == api.OK {
			t.Error(next, got, e)
		}
	}
}

func TestLearnBad(t *testing.T) { // P22.4: bytes that are no ack: each error of layer 15, none of them anything but counted
	own := packetOf(t, 6, 3)
	turned := func(at int) []byte {
		b := bytes.Clone(own)
		b[at] ^= 1
		return b
	}
	_, packets := wantTicked(t, made(plain(), 0, 2))
	for _, x := range []struct {
		b    []byte
		want api.Errno
	}{
		{nil, api.ErrLen},
		{[]byte{}, api.ErrLen},
		{[]byte{0x41}, api.ErrLen},
		{own[:12], api.ErrLen},
		{own[1:], api.ErrLen},
		{append(bytes.Clone(own), 0), api.ErrLen},
		{text(api.MaxBytes+1, 1), api.ErrLen},
		{packets[0], api.ErrLen},
		{turned(0), api.ErrKind},
		{make([]byte, 13), api.ErrKind},
		{turned(1), api.ErrSum},
		{turned(4), api.ErrSum},
		{turned(8), api.ErrSum},
		{turned(12), api.ErrSum},
		{fromHex(t, "414000000100000000b7e81d3b"), api.ErrArg}, // Next is MaxSeq + 1
	} {
		for _, s := range rightSenders() {
			wantBad(t, s, x.b, x.want)
		}
	}
}

func TestBadStays(t *testing.T) { // P22.4: up to MaxCount; of one that can be read it does not rise
	for _, x := range [][2]int{{0, 1}, {1, 2}, {41, 42}, {api.MaxCount - 2, api.MaxCount - 1}, {api.MaxCount - 1, api.MaxCount}, {api.MaxCount, api.MaxCount}} {
		s := changed(made(plain(), 5, 6, 9), func(s *api.Sender) { s.Bad = x[0] })
		got, e := send.Learn(s, []byte("none"))
		if got.Bad != x[1] || e != api.ErrLen {
			t.Error(x, got, e)
		}
		for _, next := range []int{4, 5, 9, 10} {
			got, _ := send.Learn(s, packetOf(t, next, 0))
			if got.Bad != x[0] || got.Refused != s.Refused || got.Clock != s.Clock {
				t.Error(x, next, got)
			}
		}
	}
}

func TestLearnEnds(t *testing.T) { // P22.4: Ends just at the new Base are gone, those just above it stay
	s := made(plain(), 5, 6, 9, 10, 12)
	s.Sent = 11
	for _, x := range []struct {
		next      int
		ends      []int
		confirmed int
	}{
		{5, []int{6, 9, 10, 12}, 7},
		{6, []int{9, 10, 12}, 8},
		{7, []int{9, 10, 12}, 8},
		{8, []int{9, 10, 12}, 8},
		{9, []int{10, 12}, 9},
		{10, []int{12}, 10},
		{11, []int{12}, 10},
		{12, nil, 11},
	} {
		got := wantLearnt(t, s, x.next, 0, api.OK)
		if got.Base != x.next || got.Next != 12 || !slices.Equal(got.Ends, x.ends) || len(got.Waits) != 12-x.next || got.Sent != 11 || send.Confirmed(got) != x.confirmed {
			t.Error(x, got)
		}
	}
}

func TestLearnBeyondWindow(t *testing.T) { // P22.4: bits beyond the window mark nothing; Next may be beyond it
	for window := 1; window <= api.MaxWindow; window++ {
		s := made(with(greatest(), func(c *api.Config) { c.Window = window }), 7, 20, 47)
		for _, next := range []int{7, 8, 7 + window, 20, 30, 46, 47} {
			for _, bits := range patterns() {
				got := wantLearnt(t, s, next, bits, api.OK)
				for i, w := range got.Waits {
					if want := i < window && bits>>i&1 == 1; w.Acked != want || w.Seq != next+i {
						t.Error(window, next, bits, i, w)
					}
				}
			}
		}
	}
}

func TestAckedStays(t *testing.T) { // P22.4: a later ack that tells of less, or of others, takes nothing back
	s := made(plain(), 0, 6)
	s = wantLearnt(t, s, 0, 2, api.OK)
	s = wantLearnt(t, s, 0, 0, api.OK)
	s = wantLearnt(t, s, 0, 4, api.OK)
	for i, want := range []bool{false, true, true, false, false, false} {
		if s.Waits[i].Acked != want {
			t.Error(i, s.Waits[i])
		}
	}
	s = wantLearnt(t, s, 1, 0, api.OK)
	for i, want := range []bool{true, true, false, false, false} {
		if s.Waits[i].Acked != want {
			t.Error(i, s.Waits[i])
		}
	}
}

func TestLearnLeavesRounds(t *testing.T) { // P22.4: of a block that is acked nothing else changes, nor of one that is not
	s := made(plain(), 5, 6, 9, 10, 12)
	got := wantLearnt(t, s, 7, 5, api.OK)
	for i, w := range got.Waits {
		was := s.Waits[i+2]
		was.Acked = i == 0 || i == 2
		if !sameEmit(w, was) {
			t.Error(i, w, was)
		}
	}
}

func TestLearnClosed(t *testing.T) { // P22.4: what was accepted is confirmed behind Close, too
	s := wantClose(t, made(plain(), 5, 6, 9))
	s, packets := wantTicked(t, s)
	if len(packets) != 3 {
		t.Error(packets)
	}
	s = wantLearnt(t, s, 6, 1, api.OK)
	s = wantLearnt(t, s, 9, 0, api.OK)
	if !s.Closed || len(s.Ends) != 0 {
		t.Error(s)
	}
	wantSent(t, s, nil, api.ErrClosed)
}

func TestLearnTwice(t *testing.T) { // P22.4: the same ack once more changes nothing more
	for _, s := range rightSenders() {
		for _, bits := range []uint32{0, 1, 6, math.MaxUint32} {
			next := (s.Base + s.Next) / 2
			got := wantLearnt(t, s, next, bits, api.OK)
			if again := wantLearnt(t, got, next, bits, api.OK); !same(again, got) {
				t.Error(again, got)
			}
		}
	}
}
