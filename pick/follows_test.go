package pick_test

import (
	"math"
	"slices"
	"testing"

	"volute/api"
	"volute/pick"
)

// wantFollows holds the answer to what follows: those that are kept are of l and by rising Score, and no one that is left out has less.
func wantFollows(t *testing.T, l []api.Node, b int) {
	t.Helper()
	kept, cut, e := pick.Pick(l, b)
	if e != api.OK || len(kept) != min(b, len(l)) || !slices.IsSorted(scoresOf(kept)) {
		t.Fatalf("Pick of the Scores %v, %d = %v, %d, %d", scoresOf(l), b, kept, cut, e)
	}
	left := slices.DeleteFunc(slices.Clone(l), func(n api.Node) bool {
		return slices.ContainsFunc(kept, func(k api.Node) bool { return same(k, n) })
	})
	if len(left) != len(l)-len(kept) {
		t.Errorf("Scores %v, %d: %d kept, %d left out", scoresOf(l), b, len(kept), len(left))
	}
	least := none
	for _, n := range left {
		for _, k := range kept {
			if n.Score < k.Score {
				t.Errorf("Scores %v, %d: %d is left out, %d is kept", scoresOf(l), b, n.Score, k.Score)
			}
		}
		if least == none || n.Score < least {
			least = n.Score
		}
	}
	if cut != least {
		t.Errorf("Scores %v, %d: cut is %d, not %d", scoresOf(l), b, cut, least)
	}
}

func TestFollows(t *testing.T) { // P11.2
	for n := range most + 1 {
		for _, bound := range []int{1, 2, 5, 300} {
			for _, b := range []int{1, 1 + n%api.MaxBeam, api.MaxBeam} {
				wantFollows(t, nodes(numbers(n, bound, 7*n+bound)...), b)
			}
		}
	}
}

func TestFollowsAtTheEnds(t *testing.T) { // P11.2: the least and the greatest Score that may be, R5
	for _, b := range beams {
		for n := range 40 {
			scores := numbers(n, 4, n)
			for i, s := range scores {
				scores[i] = []int{0, 1, math.MaxInt - 1, math.MaxInt}[s]
			}
			wantFollows(t, nodes(scores...), b)
		}
	}
}

func TestScoreAlone(t *testing.T) { // P11.1: neither State nor Metric nor Path counts, and nothing is asked of them
	l := []api.Node{
		{State: 0, Metric: math.MinInt, Score: 5},
		{State: math.MaxUint32, Metric: math.MaxInt, Score: 4, Path: []int{-1, 16, math.MaxInt, math.MinInt}},
		{State: 1, Metric: -1, Score: 6, Path: make([]int, 300)},
		{State: 1, Metric: 0, Score: 4, Path: []int{}},
		{State: math.MaxUint32, Metric: math.MaxInt, Score: 3, Path: []int{-1, 16, math.MaxInt, math.MinInt}},
		{State: 0, Metric: math.MinInt, Score: 5},
	}
	wantPick(t, l, 1, []int{4}, 4)
	wantPick(t, l, 2, []int{4, 1}, 4)
	wantPick(t, l, 3, []int{4, 1, 3}, 5)
	wantPick(t, l, 4, []int{4, 1, 3, 0}, 5)
	wantPick(t, l, 5, []int{4, 1, 3, 0, 5}, 6)
	wantPick(t, l, 6, []int{4, 1, 3, 0, 5, 2}, none)
}

func TestSameNodesTwice(t *testing.T) { // P11.1: nodes that are the same in all count each
	l := slices.Repeat([]api.Node{{State: 9, Metric: 2, Score: 3, Path: []int{1, 2}}}, 5)
	for b := 1; b <= 7; b++ {
		kept, cut, e := pick.Pick(l, b)
		want := none
		if b < len(l) {
			want = 3
		}
		if !slices.EqualFunc(kept, l[:min(b, len(l))], same) || cut != want || e != api.OK {
			t.Error(b, kept, cut, e)
		}
	}
}

func TestPickOfPicked(t *testing.T) { // P11.1: what was picked is picked again as it is, with none left out; b fewer of it are its first
	for n := range 60 {
		l := nodes(numbers(n, 6, n)...)
		kept, _, e := pick.Pick(l, api.MaxBeam)
		if e != api.OK {
			t.Fatal(n, e)
		}
		wantPick(t, kept, api.MaxBeam, rising(len(kept)), none)
		for b := 1; b < len(kept); b++ {
			wantPick(t, kept, b, rising(b), kept[b].Score)
			places, cut := byRank(scoresOf(l), b)
			wantPick(t, l, b, places, cut)
		}
	}
}
