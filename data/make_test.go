package data_test

import (
	"encoding/hex"
	"slices"
	"testing"

	"volute/api"
	"volute/data"
)

func TestMakeKnown(t *testing.T) { // P14.1, P14.2: worked out apart from this project
	for _, c := range []struct {
		seq, round, from int
		syms, want       string
	}{
		{0, 0, 0, "00", "440000000000000001cb6500"},
		{0, 0, 0, "ff", "440000000000000001cb65ff"},
		{1, 0, 0, "00", "440000000100000001613400"},
		{0, 1, 0, "00", "440000000001000001bdd100"},
		{0, 0, 1, "00", "440000000000000101f85400"},
		{16909060, 200, 1286, "090807", "4401020304c8050603fcc0090807"},
		{255, 255, 255, "6162", "44000000ffff00ff02e9f56162"},
		{256, 128, 256, "61626364", "440000010080010004346861626364"},
		{65535, 7, 4, "0000000000", "440000ffff0700040518180000000000"},
		{65536, 0, 65535, "313233343536373839", "440001000000ffff093e90313233343536373839"},
		{16777215, 254, 32768, "4444444444444444444444", "4400fffffffe80000bc7034444444444444444444444"},
		{16777216, 2, 17408, "44", "440100000002440001a0b344"},
		{1073741822, 255, 65534, "000102030405060708090a0b0c0d0e0f", "443ffffffefffffe10e355000102030405060708090a0b0c0d0e0f"},
		{1073741823, 255, 65535, "ff", "443fffffffffffff017825ff"},
		{1073741823, 0, 960, "000102030405060708090a0b0c0d0e0f101112131415161718191a1b1c1d1e1f202122232425262728292a2b2c2d2e2f303132333435363738393a3b3c3d3e3f", "443fffffff0003c040e8fb000102030405060708090a0b0c0d0e0f101112131415161718191a1b1c1d1e1f202122232425262728292a2b2c2d2e2f303132333435363738393a3b3c3d3e3f"},
	} {
		syms, err := hex.DecodeString(c.syms)
		want, err2 := hex.DecodeString(c.want)
		if err != nil || err2 != nil {
			t.Fatal(err, err2)
		}
		d := api.Data{Seq: c.seq, Round: c.round, From: c.from, Syms: syms}
		wantMade(t, d, want)
		wantRead(t, want, d)
	}
}

func TestMake(t *testing.T) { // P14.1: each edge beside each other one
	for _, d := range rights() {
		wantMade(t, d, packetOf(d))
	}
}

func TestMakeEachRoundAndFrom(t *testing.T) { // P14.1
	for round := range 256 {
		d := api.Data{Seq: 5, Round: round, From: 9, Syms: fill(3, round)}
		wantMade(t, d, packetOf(d))
	}
	for from := range 65536 {
		d := api.Data{Seq: 5, Round: 9, From: from, Syms: fill(1, from)}
		wantMade(t, d, packetOf(d))
	}
}

func TestMakeLength(t *testing.T) { // the chapter's beginning, example 1: 11 bytes beside the symbols, 12 of one symbol
	for n := 1; n <= api.MaxBatch; n++ {
		b, e := data.Make(api.Data{Seq: n, Round: n, From: n, Syms: fill(n, n)})
		if len(b) != extra+n || e != api.OK {
			t.Errorf("of %d symbols: %d bytes, %d", n, len(b), e)
		}
	}
	if b, e := data.Make(api.Data{Syms: []byte{0}}); len(b) != 12 || e != api.OK {
		t.Error(b, e)
	}
}

func TestSeqWrong(t *testing.T) { // P14.1, R1, R4, R5: beside right numbers and wrong ones, and ahead of a wrong length
	for _, seq := range noSeq {
		for _, round := range slices.Concat(edgeRounds, noRound) {
			for _, from := range slices.Concat(edgeFroms, noFrom) {
				for _, n := range []int{0, 1, api.MaxBatch, api.MaxBatch + 1} {
					wantNone(t, api.Data{Seq: seq, Round: round, From: from, Syms: fill(n, 1)}, api.ErrArg)
				}
			}
		}
	}
}

func TestRoundWrong(t *testing.T) { // P14.1, R1, R4, R5: beside right numbers and wrong ones, and ahead of a wrong length
	for _, round := range noRound {
		for _, seq := range edgeSeqs {
			for _, from := range slices.Concat(edgeFroms, noFrom) {
				for _, n := range []int{0, 1, api.MaxBatch, api.MaxBatch + 1} {
					wantNone(t, api.Data{Seq: seq, Round: round, From: from, Syms: fill(n, 1)}, api.ErrArg)
				}
			}
		}
	}
}

func TestFromWrong(t *testing.T) { // P14.1, R1, R4, R5: beside right numbers, and ahead of a wrong length
	for _, from := range noFrom {
		for _, seq := range edgeSeqs {
			for _, round := range edgeRounds {
				for _, n := range []int{0, 1, api.MaxBatch, api.MaxBatch + 1} {
					wantNone(t, api.Data{Seq: seq, Round: round, From: from, Syms: fill(n, 1)}, api.ErrArg)
				}
			}
		}
	}
}

func TestCountWrong(t *testing.T) { // P14.1, R1, R4: none, one more than may be, and far more; each beside each edge, and behind a wrong number
	for _, n := range noCount {
		syms := fill(n, 1)
		for _, seq := range edgeSeqs {
			for _, round := range edgeRounds {
				for _, from := range edgeFroms {
					wantNone(t, api.Data{Seq: seq, Round: round, From: from, Syms: syms}, api.ErrLen)
				}
			}
		}
		wantNone(t, api.Data{Seq: -1, Syms: syms}, api.ErrArg)
		wantNone(t, api.Data{Seq: api.MaxSeq, Syms: syms}, api.ErrArg)
		wantNone(t, api.Data{Round: 256, Syms: syms}, api.ErrArg)
		wantNone(t, api.Data{From: 65536, Syms: syms}, api.ErrArg)
	}
}

func TestNoSymbols(t *testing.T) { // P14.1, R2, R6: nil, empty, and symbols behind the length alone
	for _, syms := range [][]byte{nil, {}, make([]byte, 0, 5), fill(5, 1)[:0]} {
		wantNone(t, api.Data{Syms: syms}, api.ErrLen)
		wantNone(t, api.Data{Seq: 7, Round: 8, From: 9, Syms: syms}, api.ErrLen)
		wantNone(t, api.Data{Seq: -1, Syms: syms}, api.ErrArg)
	}
}
