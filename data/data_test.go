package data_test

import (
	"bytes"
	"encoding/binary"
	"math"
	"slices"
	"testing"

	"volute/api"
	"volute/data"
)

const (
	// headSize is how many bytes stand ahead of the sum, extra how many ahead of the symbols.
	headSize = 9
	extra    = 11
	// most is how many bytes a packet has at most.
	most = extra + api.MaxBatch
)

var (
	// Numbers that may be: the edges, and those around which a byte more is needed.
	edgeSeqs   = []int{0, 1, 255, 256, 1<<16 - 1, 1 << 16, 1<<24 - 1, 1 << 24, 0x01020304, 0x44444444 % api.MaxSeq, api.MaxSeq - 2, api.MaxSeq - 1}
	edgeRounds = []int{0, 1, 0x44, 127, 128, 254, 255}
	edgeFroms  = []int{0, 1, 255, 256, 0x0506, 0x4444, 1<<15 - 1, 1 << 15, 65534, 65535}
	edgeCounts = []int{1, 2, 3, 32, api.MaxBatch - 1, api.MaxBatch}

	// Numbers that may not be, some of them ones that may be in their lowest bits.
	noSeq   = []int{-1, -2, -api.MaxSeq, api.MaxSeq, api.MaxSeq + 1, 1 << 31, 1<<31 + 1, 1<<32 - 1, 1 << 32, 1<<32 + 1, -1 << 32, 1 - 1<<32, 1 << 62, math.MaxInt, math.MaxInt - 1, math.MinInt, math.MinInt + 1}
	noRound = []int{-1, -2, -255, -256, 256, 257, 511, 512, 1 << 16, 1 << 31, 1 << 32, 1<<32 + 1, -1 << 32, 1 - 1<<32, math.MaxInt, math.MaxInt - 1, math.MinInt, math.MinInt + 1}
	noFrom  = []int{-1, -2, -65535, -65536, 65536, 65537, 1<<17 - 1, 1 << 17, 1 << 31, 1 << 32, 1<<32 + 1, -1 << 32, 1 - 1<<32, math.MaxInt, math.MaxInt - 1, math.MinInt, math.MinInt + 1}
	// noCount are lengths that may not be, a whole turn of the byte that says them among them.
	noCount = []int{0, api.MaxBatch + 1, api.MaxBatch + 2, 127, 128, 255, 256, 257, 256 + api.MaxBatch, 320, 321, api.MaxBytes - extra, api.MaxBytes, api.MaxBytes + 1, 1<<16 + 1}
)

// fill is n symbols, others for each seed.
func fill(n, seed int) []byte {
	b := make([]byte, n)
	for i := range b {
		b[i] = byte(i*151 + seed*29 + i*i>>1)
	}
	return b
}

// sum16 is CRC-16-CCITT, a byte at once.
func sum16(b []byte) uint16 {
	sum := uint16(math.MaxUint16)
	for _, c := range b {
		x := sum>>8 ^ uint16(c)
		x ^= x >> 4
		sum = sum<<8 ^ x<<12 ^ x<<5 ^ x
	}
	return sum
}

// summed are the nine bytes of head, their sum, and the symbols.
func summed(head, syms []byte) []byte {
	return slices.Concat(head, binary.BigEndian.AppendUint16(nil, sum16(head)), syms)
}

// said is a packet that says these numbers under a right sum, with syms behind them: a right one or not.
func said(seq uint32, round byte, from uint16, count byte, syms []byte) []byte {
	head := binary.BigEndian.AppendUint32([]byte{0x44}, seq)
	head = binary.BigEndian.AppendUint16(append(head, round), from)
	return summed(append(head, count), syms)
}

// packetOf is the packet of d, put together by hand.
func packetOf(d api.Data) []byte {
	return said(uint32(d.Seq), byte(d.Round), uint16(d.From), byte(len(d.Syms)), d.Syms)
}

// rights are what may be said: each edge beside each other one.
func rights() []api.Data {
	var list []api.Data
	for k, seq := range edgeSeqs {
		for _, round := range edgeRounds {
			for _, from := range edgeFroms {
				for _, n := range edgeCounts {
					list = append(list, api.Data{Seq: seq, Round: round, From: from, Syms: fill(n, k+from)})
				}
			}
		}
	}
	for n := 1; n <= api.MaxBatch; n++ {
		for _, x := range []byte{0, 0x44, 255} {
			list = append(list, api.Data{Seq: n, Round: 2 * n, From: 3 * n, Syms: bytes.Repeat([]byte{x}, n)})
		}
	}
	return list
}

func same(a, b api.Data) bool {
	return a.Seq == b.Seq && a.Round == b.Round && a.From == b.From && bytes.Equal(a.Syms, b.Syms)
}

func wantMade(t *testing.T, d api.Data, want []byte) {
	t.Helper()
	if got, e := data.Make(d); !bytes.Equal(got, want) || e != api.OK {
		t.Errorf("Make(%v) = %x, %d, not %x", d, got, e, want)
	}
}

func wantNone(t *testing.T, d api.Data, want api.Errno) {
	t.Helper()
	if got, e := data.Make(d); len(got) != 0 || e != want {
		t.Errorf("Make(%d, %d, %d, %d symbols) = %x, %d, not %d", d.Seq, d.Round, d.From, len(d.Syms), got, e, want)
	}
}

func wantRead(t *testing.T, b []byte, want api.Data) {
	t.Helper()
	if got, e := data.Read(b); !same(got, want) || e != api.OK {
		t.Errorf("Read(%x) = %v, %d, not %v", b, got, e, want)
	}
}

func wantUnread(t *testing.T, b []byte, want api.Errno) {
	t.Helper()
	if got, e := data.Read(b); !same(got, api.Data{}) || e != want {
		t.Errorf("Read(%x) = %v, %d, not %d", b, got, e, want)
	}
}
