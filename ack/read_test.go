package ack_test

import (
	"bytes"
	"math"
	"slices"
	"testing"

	"volute/ack"
	"volute/api"
)

func TestRead(t *testing.T) { // P15.1: each edge of Next beside each of Bits, of packets put together by hand
	for _, a := range rights() {
		wantRead(t, packetOf(a), a)
	}
}

func TestMadeIsRead(t *testing.T) { // P15.3
	for _, a := range rights() {
		made, e := ack.Make(a)
		if e != api.OK {
			t.Fatal(a, e)
		}
		wantRead(t, made, a)
	}
}

func TestCutShort(t *testing.T) { // P15.3: at each length
	for _, a := range rights() {
		made, e := ack.Make(a)
		if e != api.OK {
			t.Fatal(a, e)
		}
		for n := range made {
			wantUnread(t, made[:n], api.ErrLen)
			wantUnread(t, bytes.Clone(made[:n]), api.ErrLen)
			wantUnread(t, made[size-n:], api.ErrLen)
		}
	}
}

func TestBytesMore(t *testing.T) { // P15.1: behind a packet and ahead of it, another packet among them
	for _, a := range rights() {
		b := packetOf(a)
		for n := 1; n <= 2*size; n++ {
			wantUnread(t, append(bytes.Clone(b), make([]byte, n)...), api.ErrLen)
			wantUnread(t, append(make([]byte, n), b...), api.ErrLen)
			wantUnread(t, slices.Repeat(b, 3)[:size+n], api.ErrLen)
		}
		wantUnread(t, seal(b), api.ErrLen)
	}
}

func TestReadLength(t *testing.T) { // P15.1, R1, R4: each length around 13, ahead of the kind, the seal and Next
	for n := range 4 * size {
		if n == size {
			continue
		}
		for _, x := range []byte{0, 0x40, 0x41, 0x44, 255} {
			wantUnread(t, bytes.Repeat([]byte{x}, n), api.ErrLen)
			if n > 4 {
				wantUnread(t, seal(append([]byte{x}, make([]byte, n-5)...)), api.ErrLen)
			}
		}
	}
	wantUnread(t, nil, api.ErrLen)
	wantUnread(t, []byte{}, api.ErrLen)
	for _, n := range []int{256 + size, api.MaxBytes - 1, api.MaxBytes, api.MaxBytes + 1, 1<<16 + size} {
		wantUnread(t, make([]byte, n), api.ErrLen)
		wantUnread(t, slices.Repeat(packetOf(api.Ack{Next: 5}), n/size+1)[:n], api.ErrLen)
	}
}

func TestReadKind(t *testing.T) { // P15.1, R4: each other byte, under a right seal and a wrong one, beside a Next that may be and one that may not
	for kind := range 256 {
		if kind == 0x41 {
			continue
		}
		for _, next := range append(slices.Clone(farNext), 0, 5, api.MaxSeq) {
			b := sealed(byte(kind), next, 2)
			wantUnread(t, b, api.ErrKind)
			b[size-1] ^= 1
			wantUnread(t, b, api.ErrKind)
		}
		wantUnread(t, bytes.Repeat([]byte{byte(kind)}, size), api.ErrKind)
	}
}

func TestOneBitTurned(t *testing.T) { // P15.1, R4: wherever it stands, in the seal too, and ahead of a Next that is too great then
	for _, a := range rights() {
		b := packetOf(a)
		for k := range 8 * size {
			want := api.ErrSum
			if k < 8 {
				want = api.ErrKind
			}
			b[k/8] ^= 1 << (k % 8)
			wantUnread(t, b, want)
			b[k/8] ^= 1 << (k % 8)
		}
	}
}

func TestNotSealed(t *testing.T) { // P15.1, R4: ahead of a Next that is too great
	for _, next := range append(slices.Clone(farNext), 0, 5, api.MaxSeq) {
		for _, mask := range edgeBits() {
			b := sealed(0x41, next, mask)
			right := bytes.Clone(b[sealAt:])
			slices.Reverse(b[sealAt:])
			if !bytes.Equal(b[sealAt:], right) {
				wantUnread(t, b, api.ErrSum)
			}
			for i := range 4 {
				copy(b[sealAt:], right)
				b[sealAt+i] = ^b[sealAt+i]
				wantUnread(t, b, api.ErrSum)
			}
		}
	}
	for _, rest := range []byte{0, 1, 0x41, 255} {
		wantUnread(t, append([]byte{0x41}, bytes.Repeat([]byte{rest}, size-1)...), api.ErrSum)
	}
}

func TestReadNextWrong(t *testing.T) { // P15.1: too great, under a right seal
	for _, mask := range edgeBits() {
		for _, next := range farNext {
			wantUnread(t, sealed(0x41, next, mask), api.ErrArg)
		}
		wantRead(t, sealed(0x41, api.MaxSeq, mask), api.Ack{Next: api.MaxSeq, Bits: mask})
	}
}

func TestReadIsMade(t *testing.T) { // P15.3 turned about: of numbers of all kinds, those that are read are made again
	count := 0
	for i := range uint32(20000) {
		next, mask := i*2654435761, i*40503+i<<16
		b := sealed(0x41, next, mask)
		a, e := ack.Read(b)
		if next > api.MaxSeq {
			wantUnread(t, b, api.ErrArg)
			continue
		}
		if e != api.OK {
			t.Errorf("Read(%x): %d", b, e)
		}
		count++
		wantMade(t, a, b)
	}
	if count < 20000/5 {
		t.Error(count, "were read")
	}
}

func TestAgain(t *testing.T) { // R3: an answer hangs neither on what was asked ahead of it nor on how often
	for _, a := range rights() {
		b := packetOf(a)
		wantNone(t, api.Ack{Next: -1, Bits: a.Bits})
		wantUnread(t, b[:size-1], api.ErrLen)
		wantHas(t, api.Ack{Next: math.MaxInt, Bits: ^a.Bits}, a.Next, true)
		for range 2 {
			wantMade(t, a, b)
			wantRead(t, b, a)
			wantHas(t, a, a.Next, a.Bits%2 == 1)
		}
	}
}
