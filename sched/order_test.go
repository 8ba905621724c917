package sched_test

import (
	"math"
	"slices"
	"testing"

	"volute/api"
	"volute/sched"
)

// noCount are numbers of segments that may not be, some of them one that may in their lowest bits, some whose product with MaxPasses wraps.
var noCount = []int{
	0, -1, -5, -8, -64, -65, api.MaxSegs + 1, api.MaxSegs + 2, 72, 128, 1 << 31, 1 << 32, 1<<32 + 5, 1 << 40, -1 << 32,
	1 << 59, 1 << 60, 1<<60 + 5, 1 << 62, -1 << 60, math.MaxInt, math.MaxInt - 1, math.MinInt, math.MinInt + 5,
}

func order(t *testing.T, n int) []int {
	t.Helper()
	l, e := sched.Order(n)
	if e != api.OK {
		t.Fatalf("Order(%d): %d", n, e)
	}
	return l
}

// isAhead tells by the chapter's text if a pass takes the segment a ahead of the segment b.
func isAhead(a, b int) bool {
	turns := []int{0, 4, 2, 6, 1, 5, 3, 7}
	if a%8 == b%8 {
		return a < b
	}
	return slices.Index(turns, a%8) < slices.Index(turns, b%8)
}

// placeByHand counts who is ahead of a segment in its pass, where the package walks the pass.
func placeByHand(n, segment, index int) int {
	place := 0
	for other := range n {
		if isAhead(other, segment) {
			place++
		}
	}
	return place + index*n
}

func TestOrderKnown(t *testing.T) { // P7.1: worked out apart from this project
	for n, want := range map[int][]int{
		1:  {0},
		2:  {0, 1},
		3:  {0, 2, 1},
		4:  {0, 2, 1, 3},
		5:  {0, 4, 2, 1, 3}, // example 1
		6:  {0, 4, 2, 1, 5, 3},
		7:  {0, 4, 2, 6, 1, 5, 3},
		8:  {0, 4, 2, 6, 1, 5, 3, 7},
		9:  {0, 8, 4, 2, 6, 1, 5, 3, 7},
		10: {0, 8, 4, 2, 6, 1, 9, 5, 3, 7},
		17: {0, 8, 16, 4, 12, 2, 10, 6, 14, 1, 9, 5, 13, 3, 11, 7, 15},
		64: {
			0, 8, 16, 24, 32, 40, 48, 56, 4, 12, 20, 28, 36, 44, 52, 60, 2, 10, 18, 26, 34, 42, 50, 58, 6, 14, 22, 30, 38, 46, 54, 62,
			1, 9, 17, 25, 33, 41, 49, 57, 5, 13, 21, 29, 37, 45, 53, 61, 3, 11, 19, 27, 35, 43, 51, 59, 7, 15, 23, 31, 39, 47, 55, 63,
		},
	} {
		if got := order(t, n); !slices.Equal(got, want) {
			t.Errorf("Order(%d) = %d, not %d", n, got, want)
		}
	}
}

func TestOrder(t *testing.T) { // P7.1: each number of segments that may be, by the chapter's text
	for n := 1; n <= api.MaxSegs; n++ {
		got := order(t, n)
		if len(got) != n {
			t.Errorf("Order(%d) has %d", n, len(got))
		}
		for i := 1; i < len(got); i++ {
			if !isAhead(got[i-1], got[i]) {
				t.Errorf("Order(%d) = %d: %d stands ahead of %d", n, got, got[i-1], got[i])
			}
		}
	}
}

func TestEachSegmentOnce(t *testing.T) { // P7.2
	for n := 1; n <= api.MaxSegs; n++ {
		seen := make([]int, n)
		for _, segment := range order(t, n) {
			if segment < 0 || segment >= n {
				t.Fatalf("Order(%d) has the segment %d", n, segment)
			}
			seen[segment]++
		}
		if !slices.Equal(seen, slices.Repeat([]int{1}, n)) {
			t.Errorf("Order(%d) has its segments %d times", n, seen)
		}
	}
}

func TestOrderWrong(t *testing.T) { // P7.1, R1, R4
	for _, n := range noCount {
		if l, e := sched.Order(n); len(l) != 0 || e != api.ErrArg {
			t.Errorf("Order(%d) = %d, %d", n, l, e)
		}
	}
}

func TestOrderIsNew(t *testing.T) { // R2: what is done with an answer reaches neither another answer nor a later call, of whatever number of segments
	for n := 1; n <= api.MaxSegs; n++ {
		other := n%api.MaxSegs + 1
		kept, keptOther := order(t, n), order(t, other)
		was, wasOther := slices.Clone(kept), slices.Clone(keptOther)
		spoilt := order(t, n)
		spoilt = spoilt[:cap(spoilt)]
		for i := range spoilt {
			spoilt[i] = -1
		}
		if !slices.Equal(kept, was) || !slices.Equal(keptOther, wasOther) {
			t.Errorf("%d: an earlier answer is touched", n)
		}
		if !slices.Equal(order(t, n), was) || !slices.Equal(order(t, other), wasOther) {
			t.Errorf("%d: a later answer is touched", n)
		}
		for k, segment := range was {
			if got, _, e := sched.At(n, k); got != segment || e != api.OK {
				t.Errorf("At(%d, %d): %d, %d", n, k, got, e)
			}
			if got, e := sched.Place(n, segment, 0); got != k || e != api.OK {
				t.Errorf("Place(%d, %d, 0): %d, %d", n, segment, got, e)
			}
		}
	}
}
