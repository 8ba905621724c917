package rules

import (
	"math"
	"slices"
	"testing"

	"volute/ack"
	"volute/api"
	"volute/bit"
	"volute/crc"
)

// ackPacket says next and 8001f002 in four bytes each, right or not, and is sealed.
func ackPacket(t *testing.T, next int) []byte {
	t.Helper()
	b, e := bit.Put([]byte{0x41}, next, 4)
	if e != api.OK {
		t.Fatal(e)
	}
	b, e = crc.Seal(append(b, 0x80, 1, 0xf0, 2))
	if e != api.OK {
		t.Fatal(e)
	}
	return b
}

func checkAck(t *testing.T, b []byte) {
	t.Helper()
	next := func(b []byte) (int, api.Errno) {
		a, e := ack.Read(b)
		return a.Next, e
	}
	mask := func(b []byte) (int, api.Errno) {
		a, e := ack.Read(b)
		return int(a.Bits), e
	}
	checkLists(t, "Read", number(next), b)
	checkLists(t, "Read", number(mask), b)
}

func TestAckMake(t *testing.T) {
	for _, next := range []int{math.MinInt, -1, 0, 5, 0x01020304, api.MaxSeq - 1, api.MaxSeq, api.MaxSeq + 1, 1 << 32, math.MaxInt} {
		for _, mask := range []uint32{0, 1, 2, 1 << 31, math.MaxUint32} {
			made := func([][]byte) ([][]byte, api.Errno) {
				b, e := ack.Make(api.Ack{Next: next, Bits: mask})
				return [][]byte{b}, e
			}
			checkLists(t, "Make", made)
		}
	}
}

func TestAckRead(t *testing.T) { // packets that can be read, and such with each error
	for _, next := range []int{0, 5, 0x01020304, api.MaxSeq, api.MaxSeq + 1, math.MaxUint32} {
		b := ackPacket(t, next)
		checkAck(t, b)
		checkAck(t, b[:len(b)-1])
		checkAck(t, append(slices.Clone(b), 0))
		b[5] ^= 64
		checkAck(t, b)
		b[0] ^= 64
		checkAck(t, b)
	}
	checkAck(t, []byte{})
}

func TestAckBehindTheLength(t *testing.T) { // a packet in memory of which not all is handed in, and one with more behind it
	want := api.Ack{Next: 0x01020304, Bits: 0x8001f002}
	memory := append(ackPacket(t, want.Next), fill(30)...)
	was := slices.Clone(memory)
	for n := range memory {
		a, e := ack.Read(memory[:n])
		if n == 13 {
			if a != want || e != api.OK {
				t.Error(a, e)
			}
		} else if a != (api.Ack{}) || e != api.ErrLen {
			t.Error(n, a, e)
		}
		if !slices.Equal(memory, was) {
			t.Error(n, memory)
		}
	}
}
