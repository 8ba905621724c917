package pick_test

import (
	"math"
	"slices"
	"testing"

	"volute/api"
	"volute/pick"
)

// noBeam are numbers that b may not be, some of them one that it may be in their lowest bits.
var noBeam = []int{
	-1, 0, -2, -api.MaxBeam, api.MaxBeam + 1, api.MaxBeam + 2, 32, 255, 256, 257, 1<<16 + 1, 1 << 31, 1 << 32, 1<<32 + 1, 1<<32 + 16, -1 << 32, 1 - 1<<32,
	1 << 62, math.MaxInt, math.MaxInt - 1, math.MinInt, math.MinInt + 1,
}

// noScore are Scores below 0.
var noScore = []int{-1, -2, -16, -256, -1 << 31, -1 << 32, 1 - 1<<32, math.MinInt + 1, math.MinInt}

// tooMany are lengths of lists that may not be.
var tooMany = []int{most + 1, most + 2, 2 * most, 1<<16 + 1}

func TestBeamWrong(t *testing.T) { // P11.1, R1, R4: of lists that may be, and of such that may not
	for _, b := range noBeam {
		for _, n := range []int{0, 1, 2, api.MaxBeam, api.MaxBeam + 1, most} {
			wantError(t, nodes(rising(n)...), b, api.ErrArg)
		}
		wantError(t, nil, b, api.ErrArg)
		wantError(t, nodes(4, -1), b, api.ErrArg)
		for _, n := range tooMany {
			wantError(t, make([]api.Node, n), b, api.ErrArg)
		}
	}
}

func TestScoreBelow(t *testing.T) { // P11.1, R1, R4: at the first node, a middle one, the last, and each other
	for _, n := range []int{1, 2, 3, api.MaxBeam, api.MaxBeam + 1, 40, most - 1, most} {
		for at := range n {
			for _, wrong := range noScore {
				l := nodes(rising(n)...)
				l[at].Score = wrong
				wantError(t, l, 1+at%api.MaxBeam, api.ErrArg)
			}
		}
		wantError(t, nodes(slices.Repeat([]int{-1}, n)...), api.MaxBeam, api.ErrArg)
		wantError(t, nodes(slices.Repeat([]int{math.MinInt}, n)...), 1, api.ErrArg)
	}
}

func TestTooMany(t *testing.T) { // P11.1, R4: one more than may be, and more
	for b := 1; b <= api.MaxBeam; b++ {
		for _, n := range tooMany {
			wantError(t, make([]api.Node, n), b, api.ErrLen)
			wantError(t, nodes(rising(n)...), b, api.ErrLen)
		}
		wantPick(t, nodes(rising(most)...), b, rising(b), b)
		wantPick(t, nodes(rising(most-1)...), b, rising(b), b)
	}
}

func TestScoreBelowOfTooMany(t *testing.T) { // P11.1, R4: the Scores come first, those beyond the length that may be too
	for _, n := range tooMany {
		for _, at := range []int{0, 1, n / 2, most - 1, most, n - 1} {
			for _, wrong := range noScore {
				l := make([]api.Node, n)
				l[at].Score = wrong
				for _, b := range []int{1, api.MaxBeam} {
					wantError(t, l, b, api.ErrArg)
				}
			}
		}
	}
}

func TestZeroIsNoWrongScore(t *testing.T) { // P11.1: the edge of what a Score may be
	wantPick(t, nodes(0), 1, []int{0}, none)
	wantPick(t, nodes(1, 0, 0), 1, []int{1}, 0)
	wantPick(t, nodes(0, 0), 1, []int{0}, 0)
	wantPick(t, make([]api.Node, most), api.MaxBeam, rising(api.MaxBeam), 0)
}

func TestPickAgain(t *testing.T) { // R3: an answer hangs neither on what was asked ahead of it nor on how often
	type answer struct {
		kept []api.Node
		cut  int
	}
	ahead := make([]answer, 80)
	for i := range ahead {
		kept, cut, e := pick.Pick(nodes(numbers(i, 9, i)...), 1+i%api.MaxBeam)
		if e != api.OK {
			t.Fatal(i, e)
		}
		ahead[i] = answer{kept, cut}
	}
	for i := len(ahead) - 1; i >= 0; i-- {
		wantError(t, nodes(0, -1), 1, api.ErrArg)
		wantError(t, make([]api.Node, most+1), 1, api.ErrLen)
		for range 2 {
			kept, cut, e := pick.Pick(nodes(numbers(i, 9, i)...), 1+i%api.MaxBeam)
			if !slices.EqualFunc(kept, ahead[i].kept, same) || cut != ahead[i].cut || e != api.OK {
				t.Error(i, kept, cut, e)
			}
		}
	}
}
