package ack_test

import (
	"bytes"
	"encoding/binary"
	"hash/crc32"
	"math"
	"testing"

	"volute/ack"
	"volute/api"
)

// size is how many bytes a packet has, and sealAt how many of them are sealed.
const (
	size   = 13
	sealAt = 9
)

var (
	// edgeNexts are numbers that may be: the edges, and those around which a byte more is needed.
	edgeNexts = []int{0, 1, 5, 31, 32, 33, 255, 256, 1<<16 - 1, 1 << 16, 1<<24 - 1, 1 << 24, 0x01020304, 0x00414141, 1<<29 - 1, 1 << 29, api.MaxSeq - 32, api.MaxSeq - 2, api.MaxSeq - 1, api.MaxSeq}
	// noNext are numbers that may not be, some of them ones that may be in their lowest bits.
	noNext = []int{-1, -2, -31, -32, -33, -api.MaxSeq, -api.MaxSeq - 1, api.MaxSeq + 1, api.MaxSeq + 2, 1<<31 - 1, 1 << 31, 1<<31 + 1, 1<<32 - 1, 1 << 32, 1<<32 + 1, 1<<32 + api.MaxSeq, -1 << 32, 1 - 1<<32, 5 - 1<<32, 1 << 40, 1 << 62, math.MaxInt, math.MaxInt - 1, math.MaxInt - 31, math.MinInt, math.MinInt + 1, math.MinInt + 5}
	// farNext are numbers of four bytes that are too great.
	farNext = []uint32{api.MaxSeq + 1, api.MaxSeq + 2, 0x41414141, 0x7fffffff, 0x80000000, 0x80000001, 0xc0000000, 0xfffffffe, math.MaxUint32}
)

// edgeBits are each bit alone, all but each, none, all, and some.
func edgeBits() []uint32 {
	list := []uint32{0, math.MaxUint32, 0xa0000001, 0x01020304, 0x41414141, 0x55555555, 0xaaaaaaaa, 0x0000ffff, 0xffff0000}
	for i := range 32 {
		list = append(list, 1<<i, ^(uint32(1) << i))
	}
	return list
}

// rights are what may be said: each edge beside each other one.
func rights() []api.Ack {
	var list []api.Ack
	for _, next := range edgeNexts {
		for _, mask := range edgeBits() {
			list = append(list, api.Ack{Next: next, Bits: mask})
		}
	}
	return list
}

// seal is b and its sum behind it, worked out by the library.
func seal(b []byte) []byte {
	return binary.LittleEndian.AppendUint32(bytes.Clone(b), crc32.ChecksumIEEE(b))
}

// sealed is a packet that begins with kind and says these numbers under a right seal: a right one or not.
func sealed(kind byte, next, mask uint32) []byte {
	b := binary.BigEndian.AppendUint32([]byte{kind}, next)
	return seal(binary.BigEndian.AppendUint32(b, mask))
}

// packetOf is the packet of a, put together by hand.
func packetOf(a api.Ack) []byte { return sealed(0x41, uint32(a.Next), a.Bits) }

func wantMade(t *testing.T, a api.Ack, want []byte) {
	t.Helper()
	if got, e := ack.Make(a); !bytes.Equal(got, want) || e != api.OK {
		t.Errorf("Make(%v) = %x, %d, not %x", a, got, e, want)
	}
}

func wantNone(t *testing.T, a api.Ack) {
	t.Helper()
	if got, e := ack.Make(a); len(got) != 0 || e != api.ErrArg {
		t.Errorf("Make(%v) = %x, %d, not %d", a, got, e, api.ErrArg)
	}
}

func wantRead(t *testing.T, b []byte, want api.Ack) {
	t.Helper()
	if got, e := ack.Read(b); got != want || e != api.OK {
		t.Errorf("Read(%x) = %v, %d, not %v", b, got, e, want)
	}
}

func wantUnread(t *testing.T, b []byte, want api.Errno) {
	t.Helper()
	if got, e := ack.Read(b); got != (api.Ack{}) || e != want {
		t.Errorf("Read(%x) = %v, %d, not %d", b, got, e, want)
	}
}

func wantHas(t *testing.T, a api.Ack, seq int, want bool) {
	t.Helper()
	if got := ack.Has(a, seq); got != want {
		t.Errorf("Has(%v, %d) = %t", a, seq, got)
	}
}
