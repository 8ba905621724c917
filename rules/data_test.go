package rules

import (
	"math"
	"slices"
	"testing"

	"volute/api"
	"volute/bit"
	"volute/crc"
	"volute/data"
)

// packet says the number seq in four bytes, the round 5, the place 607 and count symbols, right or not, under a right sum; behind that stand syms.
func packet(t *testing.T, seq, count int, syms []byte) []byte {
	t.Helper()
	head, e := bit.Put([]byte{0x44}, seq, 4)
	if e != api.OK {
		t.Fatal(e)
	}
	head = append(head, 5, 6, 7, byte(count))
	sum, e := crc.Sum16(head)
	if e != api.OK {
		t.Fatal(e)
	}
	return slices.Concat(head, []byte{byte(sum >> 8), byte(sum)}, syms)
}

func checkPacket(t *testing.T, b []byte) {
	t.Helper()
	read := func(b []byte) ([]byte, api.Errno) {
		d, e := data.Read(b)
		return d.Syms, e
	}
	numbers := func(b []byte) (int, api.Errno) {
		d, e := data.Read(b)
		return d.Seq<<24 | d.Round<<16 | d.From, e
	}
	checkLists(t, "Read", one(read), b)
	checkLists(t, "Read", number(numbers), b)
}

func TestDataMake(t *testing.T) {
	for _, seq := range []int{math.MinInt, -1, 0, 0x01020304, api.MaxSeq - 1, api.MaxSeq, math.MaxInt} {
		for _, round := range []int{-1, 0, 255, 256} {
			for _, from := range []int{-1, 0, 65535, 65536} {
				made := func(syms []byte) ([]byte, api.Errno) {
					return data.Make(api.Data{Seq: seq, Round: round, From: from, Syms: syms})
				}
				for n := range api.MaxBatch + 3 {
					checkLists(t, "Make", one(made), fill(n))
				}
				checkLists(t, "Make", one(made), fill(api.MaxBytes+1))
			}
		}
	}
}

func TestDataRead(t *testing.T) { // packets that can be read, and such with each error
	for n := range api.MaxBatch + 2 {
		for _, seq := range []int{0, 0x01020304, api.MaxSeq - 1, api.MaxSeq, math.MaxUint32} {
			for _, count := range []int{0, n - 1, n, n + 1, 255} {
				b := packet(t, seq, count, fill(n))
				checkPacket(t, b)
				checkPacket(t, b[:len(b)-1])
				b[5] ^= 64
				checkPacket(t, b)
				b[0] ^= 64
				checkPacket(t, b)
			}
		}
	}
	checkPacket(t, []byte{})
}

func TestDataBehindTheLength(t *testing.T) { // more symbols in memory than are handed in, and more bytes than a packet has
	memory := fill(2 * api.MaxBatch)
	was := slices.Clone(memory)
	for n := 1; n <= api.MaxBatch; n++ {
		b, e := data.Make(api.Data{Seq: 0x01020304, Round: 5, From: 0x0607, Syms: memory[:n]})
		want := packet(t, 0x01020304, n, was[:n])
		if !slices.Equal(b, want) || e != api.OK || !slices.Equal(memory, was) {
			t.Error(n, b, e, memory)
		}
		long := slices.Concat(b, memory)
		d, e := data.Read(long[:len(b)])
		if !slices.Equal(d.Syms, was[:n]) || e != api.OK {
			t.Error(n, d, e)
		}
		spoil(d.Syms)
		if !slices.Equal(long, slices.Concat(want, was)) {
			t.Error(n, "the symbols share memory with the bytes")
		}
		for k := range b {
			if d, e := data.Read(b[:k]); d.Seq != 0 || d.Round != 0 || d.From != 0 || len(d.Syms) != 0 || e != api.ErrLen {
				t.Error(n, k, d, e)
			}
		}
	}
	if b, e := data.Make(api.Data{Syms: memory[:0]}); len(b) != 0 || e != api.ErrLen || !slices.Equal(memory, was) {
		t.Error(b, e, memory)
	}
}
