package ack_test

import (
	"math"
	"math/big"
	"slices"
	"testing"

	"volute/ack"
	"volute/api"
)

// had is what Has asks, in numbers without bounds.
func had(a api.Ack, seq int) bool {
	if seq < 0 {
		return false
	}
	number, next := big.NewInt(int64(seq)), big.NewInt(int64(a.Next))
	if number.Cmp(next) < 0 {
		return true
	}
	if next.Sign() < 0 {
		return false
	}
	for i := range 32 {
		one := new(big.Int).Add(next, big.NewInt(int64(i)))
		if number.Cmp(one) == 0 && a.Bits&(1<<i) != 0 {
			return true
		}
	}
	return false
}

// around are numbers near n and n + 31, without those that an int cannot hold.
func around(n int) []int {
	var list []int
	for d := -34; d <= 66; d++ {
		if x := n + d; (x > n) == (d > 0) {
			list = append(list, x)
		}
	}
	return list
}

// far are numbers of all sizes, each of them an edge of something.
var far = []int{math.MinInt, math.MinInt + 1, math.MinInt + 31, math.MinInt + 32, -1 << 62, -1 << 32, 5 - 1<<32, -api.MaxSeq, -65, -33, -32, -31, -2, -1, 0, 1, 4, 5, 31, 32, 33, api.MaxSeq - 1, api.MaxSeq, api.MaxSeq + 1, 1 << 31, 1<<32 - 1, 1 << 32, 1<<32 + 5, 1 << 62, math.MaxInt - 32, math.MaxInt - 31, math.MaxInt - 1, math.MaxInt}

func TestHasExample(t *testing.T) { // example 1: Next 5, Bits 2 has 0 to 4, and 6
	a := api.Ack{Next: 5, Bits: 2}
	want := []int{0, 1, 2, 3, 4, 6}
	for seq := -200; seq <= 400; seq++ {
		wantHas(t, a, seq, slices.Contains(want, seq))
	}
}

func TestHasEachBit(t *testing.T) { // P15.2: each bit alone stands for one number, from the lowest on
	for _, next := range []int{0, 1, 5, api.MaxSeq, math.MaxInt - 31} {
		for i := range 32 {
			alone, others := api.Ack{Next: next, Bits: 1 << i}, api.Ack{Next: next, Bits: ^(uint32(1) << i)}
			for k := range 32 {
				wantHas(t, alone, next+k, k == i)
				wantHas(t, others, next+k, k != i)
			}
		}
	}
}

func TestHasEdges(t *testing.T) { // P15.2: around Next and Next + 31
	for _, next := range []int{0, 1, 31, 32, 33, 1000, api.MaxSeq - 1, api.MaxSeq, api.MaxSeq + 1, 1 << 32, math.MaxInt - 32} {
		all, none := api.Ack{Next: next, Bits: math.MaxUint32}, api.Ack{Next: next}
		highest := api.Ack{Next: next, Bits: 1 << 31}
		for _, a := range []api.Ack{all, none, highest} {
			wantHas(t, a, -1, false)
			wantHas(t, a, 0, next > 0 || a == all)
			wantHas(t, a, next-1, next > 0)
			wantHas(t, a, next, a == all)
			wantHas(t, a, next+30, a == all)
			wantHas(t, a, next+31, a != none)
			wantHas(t, a, next+32, false)
		}
	}
}

func TestHasFar(t *testing.T) { // P15.2, R1, R5: Next and seq of all sizes, far from each other and near; nothing wraps
	for _, next := range slices.Concat(far, edgeNexts, noNext) {
		for _, mask := range edgeBits() {
			a := api.Ack{Next: next, Bits: mask}
			for _, seq := range slices.Concat(far, around(next)) {
				wantHas(t, a, seq, had(a, seq))
			}
		}
	}
}

func TestHasBelowNought(t *testing.T) { // P15.2: no seq below 0, whatever is said; nothing at all where Next is below 0, not even what Next + i would reach
	for _, n := range []int{-1, -2, -31, -32, -33, -api.MaxSeq, -1 << 32, -1 << 62, math.MinInt, math.MinInt + 1} {
		for _, other := range slices.Concat(far, around(n)) {
			for _, mask := range []uint32{0, 1, 2, 1 << 31, math.MaxUint32} {
				wantHas(t, api.Ack{Next: other, Bits: mask}, n, false)
				wantHas(t, api.Ack{Next: n, Bits: mask}, other, false)
			}
		}
	}
}

func TestHasGreatest(t *testing.T) { // P15.2, R5: Next + i beyond the greatest int is no number that there is
	for d := range 40 {
		a := api.Ack{Next: math.MaxInt - d, Bits: math.MaxUint32}
		wantHas(t, a, math.MaxInt, d < 32)
		wantHas(t, a, math.MinInt, false)
		wantHas(t, a, 0, true)
		a.Bits = 0
		wantHas(t, a, math.MaxInt, false)
		wantHas(t, a, math.MaxInt-d-1, true)
	}
}

func TestHasOfRead(t *testing.T) { // what was read has what was made
	for _, a := range rights() {
		made, e := ack.Make(a)
		if e != api.OK {
			t.Fatal(a, e)
		}
		b, e := ack.Read(made)
		if e != api.OK {
			t.Fatal(a, e)
		}
		for _, seq := range around(a.Next) {
			wantHas(t, b, seq, had(a, seq))
		}
	}
}
