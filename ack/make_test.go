package ack_test

import (
	"encoding/hex"
	"testing"

	"volute/ack"
	"volute/api"
)

func TestMakeKnown(t *testing.T) { // P15.1: worked out apart from this project
	for _, c := range []struct {
		next int
		mask uint32
		want string
	}{
		{0, 0, "410000000000000000ea03e02f"},
		{0, 1, "4100000000000000017c33e758"},
		{1, 0, "4100000001000000005a2a8012"},
		{5, 2, "410000000500000002b6ed0e09"},
		{16909060, 0xa0000001, "4101020304a0000001a0efad3d"},
		{255, 0x100, "41000000ff0000010027f59ffc"},
		{256, 0xff, "4100000100000000ffc23fbec9"},
		{65535, 0x10000, "410000ffff000100009d058200"},
		{4276545, 0x41414141, "410041414141414141fa0242d6"},
		{16777216, 0x80000000, "4101000000800000004fb5130e"},
		{1073741823, 0x7fffffff, "413fffffff7fffffff93f279fc"},
		{1073741824, 0, "41400000000000000007c17d06"},
		{1073741824, 0xffffffff, "4140000000ffffffffe4e1c6d8"},
	} {
		want, err := hex.DecodeString(c.want)
		if err != nil {
			t.Fatal(err)
		}
		a := api.Ack{Next: c.next, Bits: c.mask}
		wantMade(t, a, want)
		wantRead(t, want, a)
	}
}

func TestMake(t *testing.T) { // P15.1: each edge of Next beside each of Bits
	for _, a := range rights() {
		wantMade(t, a, packetOf(a))
	}
}

func TestMakeLength(t *testing.T) { // the chapter's beginning: 13 bytes, whatever is said
	for _, a := range rights() {
		if got, e := ack.Make(a); len(got) != size || e != api.OK {
			t.Errorf("Make(%v): %d bytes, %d", a, len(got), e)
		}
	}
}

func TestMakeWrong(t *testing.T) { // P15.1, R1, R4, R5: beside all Bits
	for _, next := range noNext {
		for _, mask := range edgeBits() {
			wantNone(t, api.Ack{Next: next, Bits: mask})
		}
	}
}
