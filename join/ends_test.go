package join_test

import (
	"math"
	"testing"

	"volute/api"
	"volute/join"
)

func TestEnds(t *testing.T) { // P21.1: every mark, open and not
	for _, x := range []struct {
		mark           int
		closed, opened bool
	}{
		{0, false, false},
		{api.First, false, false},
		{api.Last, false, true},
		{api.First | api.Last, true, true},
	} {
		for _, n := range []int{0, 1, 2, api.MaxBlock - 1, api.MaxBlock} {
			wantEnds(t, api.Join{}, part(x.mark, n), x.closed)
			wantEnds(t, api.Join{Text: []byte{}}, part(x.mark, n), x.closed)
			for _, held := range []int{0, 1, 16, api.MaxBytes - 1, api.MaxBytes} {
				wantEnds(t, open(held), part(x.mark, n), x.opened)
			}
		}
	}
}

func TestEndsByMarksAndOpenAlone(t *testing.T) { // P21.1, R1: what else stands in a Join and in a block does not matter, right or wrong
	for mark := range 4 {
		for _, j := range append(rightJoins(), wrongJoins()...) {
			want := mark == 3 || mark == 2 && j.Open
			for _, n := range append(noTexts, 0, 1, api.MaxBlock) {
				wantEnds(t, j, part(mark, n), want)
			}
			for _, seq := range seqs {
				wantEnds(t, j, api.Block{Seq: seq, Mark: mark}, want)
			}
		}
	}
}

func TestEndsOfMarksThatMayNotBe(t *testing.T) { // P21.1, R1: the bits of First and Last tell, whatever other ones stand beside them
	for _, x := range []struct {
		mark           int
		closed, opened bool
	}{
		{-1, true, true},
		{-2, false, true},
		{-3, false, false},
		{-4, false, false},
		{4, false, false},
		{5, false, false},
		{6, false, true},
		{7, true, true},
		{math.MaxInt, true, true},
		{math.MaxInt - 1, false, true},
		{math.MinInt, false, false},
		{math.MinInt + 1, false, false},
		{math.MinInt + 3, true, true},
	} {
		for _, n := range []int{0, 1, api.MaxBlock, api.MaxBlock + 1} {
			wantEnds(t, api.Join{}, part(x.mark, n), x.closed)
			wantEnds(t, open(0), part(x.mark, n), x.opened)
			wantEnds(t, open(5), part(x.mark, n), x.opened)
			wantEnds(t, open(api.MaxBytes+1), part(x.mark, n), x.opened)
		}
	}
}

func TestEndsTellsDone(t *testing.T) { // P21.1 beside P21.2: a Take that is no error is done, if Ends said so, and else it is not
	for _, j := range rightJoins() {
		for mark := range 4 {
			for n := range api.MaxBlock + 1 {
				b := part(mark, n)
				if got := take(j, b); got.e == api.OK && got.done != join.Ends(j, b) {
					t.Error(j.Open, len(j.Text), mark, n, got.done)
				}
			}
		}
	}
}
