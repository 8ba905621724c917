package data_test

import (
	"bytes"
	"encoding/binary"
	"math"
	"testing"

	"volute/api"
	"volute/data"
)

func TestRead(t *testing.T) { // P14.2: each edge beside each other one, of packets put together by hand
	for _, d := range rights() {
		wantRead(t, packetOf(d), d)
	}
}

func TestReadEachRoundAndFrom(t *testing.T) { // P14.2: all of them may be
	for round := range 256 {
		wantRead(t, said(5, byte(round), 9, 2, []byte{1, 2}), api.Data{Seq: 5, Round: round, From: 9, Syms: []byte{1, 2}})
	}
	for from := range 65536 {
		wantRead(t, said(5, 9, uint16(from), 1, []byte{1}), api.Data{Seq: 5, Round: 9, From: from, Syms: []byte{1}})
	}
}

func TestMadeIsRead(t *testing.T) { // P14.3, and read it is made again
	for _, d := range rights() {
		b, e := data.Make(d)
		if e != api.OK {
			t.Fatal(d, e)
		}
		got, e := data.Read(b)
		if !same(got, d) || e != api.OK {
			t.Fatal(d, got, e)
		}
		wantMade(t, got, b)
	}
}

func TestCutShort(t *testing.T) { // P14.3: at each length
	for n := 1; n <= api.MaxBatch; n++ {
		for _, d := range []api.Data{{Syms: make([]byte, n)}, {Seq: api.MaxSeq - 1, Round: 255, From: 65535, Syms: fill(n, n)}} {
			b, e := data.Make(d)
			if e != api.OK {
				t.Fatal(d, e)
			}
			for k := range b {
				wantUnread(t, b[:k], api.ErrLen)
				wantUnread(t, bytes.Clone(b[:k]), api.ErrLen)
			}
			wantRead(t, b, d)
		}
	}
}

func TestBytesMore(t *testing.T) { // P14.2: below the greatest length and above it
	for n := 1; n <= api.MaxBatch; n++ {
		b := packetOf(api.Data{Seq: 1, Round: 2, From: 3, Syms: fill(n, n)})
		for more := 1; more <= most; more++ {
			wantUnread(t, append(bytes.Clone(b), make([]byte, more)...), api.ErrLen)
			wantUnread(t, append(bytes.Clone(b), fill(more, more)...), api.ErrLen)
		}
	}
}

func TestReadLength(t *testing.T) { // P14.2, R1, R4: each length that may not be, ahead of the kind, the sum and the number, and each that may be
	lengths := []int{254, 255, 256, 256 + extra, 256 + most, api.MaxBytes, api.MaxBytes + 1, 1<<16 + 12}
	for n := range 2 * most {
		lengths = append(lengths, n)
	}
	for _, n := range lengths {
		long := max(n, extra)
		right := said(5, 6, 7, byte(long-extra), fill(long-extra, n))[:n]
		tooGreat := said(math.MaxUint32, 6, 7, byte(long-extra), fill(long-extra, n))[:n]
		if n >= 12 && n <= most {
			wantRead(t, right, api.Data{Seq: 5, Round: 6, From: 7, Syms: fill(n-extra, n)})
			wantUnread(t, make([]byte, n), api.ErrKind)
			wantUnread(t, bytes.Repeat([]byte{0x44}, n), api.ErrSum)
			wantUnread(t, tooGreat, api.ErrArg)
			continue
		}
		for _, b := range [][]byte{right, tooGreat, make([]byte, n), bytes.Repeat([]byte{0x44}, n), fill(n, n)} {
			wantUnread(t, b, api.ErrLen)
		}
	}
	wantUnread(t, nil, api.ErrLen)
	wantUnread(t, []byte{}, api.ErrLen)
}

func TestOtherKind(t *testing.T) { // P14.2, R4: each other byte, its sum right or not, ahead of a wrong number and a wrong length
	for first := range 256 {
		if first == 0x44 {
			continue
		}
		for _, b := range [][]byte{packetOf(api.Data{Seq: 5, Syms: fill(3, 1)}), said(math.MaxUint32, 0, 0, 3, fill(3, 1)), said(5, 0, 0, 4, fill(3, 1))} {
			b[0] = byte(first)
			wantUnread(t, b, api.ErrKind)
			wantUnread(t, summed(b[:headSize], b[extra:]), api.ErrKind)
		}
	}
}

func TestEachSum(t *testing.T) { // P14.2: one of them is right; the others are told ahead of a wrong number and a wrong length
	for _, b := range [][]byte{packetOf(api.Data{Seq: 5, Round: 6, From: 7, Syms: fill(2, 1)}), said(api.MaxSeq, 6, 7, 2, fill(2, 1)), said(5, 6, 7, 1, fill(2, 1))} {
		_, rightsError := data.Read(b)
		right := sum16(b[:headSize])
		for sum := range 65536 {
			binary.BigEndian.PutUint16(b[headSize:], uint16(sum))
			if uint16(sum) != right {
				wantUnread(t, b, api.ErrSum)
			} else if _, e := data.Read(b); e != rightsError || e == api.ErrSum {
				t.Error(sum, e)
			}
		}
	}
}

func TestSumInOtherOrder(t *testing.T) { // P14.2: the highest byte first
	b := packetOf(api.Data{Seq: 5, Round: 6, From: 7, Syms: fill(2, 1)})
	if b[headSize] == b[headSize+1] {
		t.Fatal("both bytes are the same")
	}
	b[headSize], b[headSize+1] = b[headSize+1], b[headSize]
	wantUnread(t, b, api.ErrSum)
}

func TestOneBitTurnedInHead(t *testing.T) { // P14.2, R4: wherever it stands, in the sum too, and ahead of what else is wrong then
	for _, d := range rights() {
		b := packetOf(d)
		for k := range 8 * extra {
			want := api.ErrSum
			if k < 8 {
				want = api.ErrKind
			}
			b[k/8] ^= 1 << (k % 8)
			wantUnread(t, b, want)
			b[k/8] ^= 1 << (k % 8)
		}
	}
}

func TestOneBitTurnedInSymbols(t *testing.T) { // P14.2: the sum is of the head alone
	for n := 1; n <= api.MaxBatch; n++ {
		d := api.Data{Seq: 5, Round: 6, From: 7, Syms: fill(n, n)}
		b := packetOf(d)
		for k := range 8 * n {
			b[extra+k/8] ^= 1 << (k % 8)
			d.Syms[k/8] ^= 1 << (k % 8)
			wantRead(t, b, d)
			b[extra+k/8] ^= 1 << (k % 8)
			d.Syms[k/8] ^= 1 << (k % 8)
		}
	}
}

func TestReadSeqWrong(t *testing.T) { // P14.2, R4: under a right sum, ahead of a number of symbols that is not so
	for _, seq := range []uint32{api.MaxSeq, api.MaxSeq + 1, 0x7fffffff, 0x80000000, 0x80000001, 0xc0000000, 0xfffffffe, math.MaxUint32} {
		for count := range 256 {
			for _, n := range edgeCounts {
				wantUnread(t, said(seq, 6, 7, byte(count), fill(n, 1)), api.ErrArg)
			}
		}
	}
	wantRead(t, said(api.MaxSeq-1, 6, 7, 1, []byte{8}), api.Data{Seq: api.MaxSeq - 1, Round: 6, From: 7, Syms: []byte{8}})
}

func TestReadCountWrong(t *testing.T) { // P14.2: each number that may be said, under a right sum, beside each that may be there
	for n := 1; n <= api.MaxBatch; n++ {
		for count := range 256 {
			for _, seq := range []int{0, 5, api.MaxSeq - 1} {
				b := said(uint32(seq), 6, 7, byte(count), fill(n, count))
				if count == n {
					wantRead(t, b, api.Data{Seq: seq, Round: 6, From: 7, Syms: fill(n, count)})
				} else {
					wantUnread(t, b, api.ErrLen)
				}
			}
		}
	}
}

func TestReadIsMade(t *testing.T) { // P14.3 turned about: of bytes of all kinds, those that are read are made again
	count := 0
	for n := 12; n <= most; n++ {
		for seed := range 300 {
			head := append([]byte{0x44}, fill(headSize-1, seed*n)...)
			head[1] = byte(seed)
			if seed%2 == 0 {
				head[headSize-1] = byte(n - extra)
			}
			b := summed(head, fill(n-extra, seed))
			d, e := data.Read(b)
			if e != api.OK {
				continue
			}
			count++
			wantMade(t, d, b)
		}
	}
	if count == 0 {
		t.Error("none was read")
	}
}

func TestAgain(t *testing.T) { // R3: an answer hangs neither on what was asked ahead of it nor on how often
	for _, d := range rights() {
		b := packetOf(d)
		wantNone(t, api.Data{Seq: -1, Syms: d.Syms}, api.ErrArg)
		wantUnread(t, b[:len(b)-1], api.ErrLen)
		for range 2 {
			wantMade(t, d, b)
			wantRead(t, b, d)
		}
	}
}
