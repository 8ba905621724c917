package pick_test

import (
	"math"
	"slices"
	"testing"

	"volute/api"
	"volute/pick"
)

// most is how many nodes may be picked from.
const most = 16 * api.MaxBeam

// none is the cut where no one is left out.
const none = -1

// nodes have these Scores; each has a State, a Metric and a Path that no other one has, and that do not rise with the Scores.
func nodes(scores ...int) []api.Node {
	l := make([]api.Node, len(scores))
	for i, s := range scores {
		l[i] = api.Node{State: math.MaxUint32 - uint32(i)*3, Metric: (i*37)%1009 - 500, Score: s, Path: slices.Repeat([]int{i}, 1+i%5)}
	}
	return l
}

func scoresOf(l []api.Node) []int {
	out := make([]int, len(l))
	for i, n := range l {
		out[i] = n.Score
	}
	return out
}

func same(a, b api.Node) bool {
	return a.State == b.State && a.Metric == b.Metric && a.Score == b.Score && slices.Equal(a.Path, b.Path)
}

// wantPick holds the answer to the nodes of l at these places, whole and in this order.
func wantPick(t *testing.T, l []api.Node, b int, places []int, cut int) {
	t.Helper()
	want := make([]api.Node, len(places))
	for k, i := range places {
		want[k] = l[i]
	}
	kept, got, e := pick.Pick(l, b)
	if !slices.EqualFunc(kept, want, same) || got != cut || e != api.OK {
		t.Errorf("Pick of the Scores %v, %d = %v, %d, %d, not %v, %d", scoresOf(l), b, kept, got, e, want, cut)
	}
}

func wantError(t *testing.T, l []api.Node, b int, want api.Errno) {
	t.Helper()
	if kept, cut, e := pick.Pick(l, b); len(kept) != 0 || cut != 0 || e != want {
		t.Errorf("Pick of %d nodes, %d = %v, %d, %d, not %d", len(l), b, kept, cut, e, want)
	}
}

// rising are the places below n.
func rising(n int) []int {
	out := make([]int, n)
	for i := range out {
		out[i] = i
	}
	return out
}

// falling are the places below n, the last one first.
func falling(n int) []int {
	out := rising(n)
	slices.Reverse(out)
	return out
}

// byRank tells what is to be picked by another way than the program's: a node's rank is how many stand ahead of it.
func byRank(scores []int, b int) (places []int, cut int) {
	places, cut = make([]int, min(b, len(scores))), none
	for i, s := range scores {
		rank := 0
		for j, other := range scores {
			if other < s || other == s && j < i {
				rank++
			}
		}
		switch {
		case rank < b:
			places[rank] = i
		case rank == b:
			cut = s
		}
	}
	return places, cut
}

// numbers are n numbers from 0 on and below bound, without a plan.
func numbers(n, bound, seed int) []int {
	out := make([]int, n)
	x := uint32(seed)*2654435761 + 99
	for i := range out {
		x = x*1664525 + 1013904223
		out[i] = int(x>>8) % bound
	}
	return out
}

// beams are some b that may be.
var beams = []int{1, 2, 3, 7, 8, api.MaxBeam - 1, api.MaxBeam}

func TestExample(t *testing.T) { // P11.1: example 1
	wantPick(t, nodes(3, 1, 2, 1), 2, []int{1, 3}, 2)
}

func TestPickKnown(t *testing.T) { // P11.1: worked out by hand
	const top = math.MaxInt
	for _, c := range []struct {
		scores []int
		b      int
		places []int
		cut    int
	}{
		{[]int{3, 1, 2, 1}, 1, []int{1}, 1},
		{[]int{3, 1, 2, 1}, 3, []int{1, 3, 2}, 3},
		{[]int{3, 1, 2, 1}, 4, []int{1, 3, 2, 0}, none},
		{[]int{3, 1, 2, 1}, 5, []int{1, 3, 2, 0}, none},
		{[]int{3, 1, 2, 1}, 16, []int{1, 3, 2, 0}, none},
		{[]int{5}, 1, []int{0}, none},
		{[]int{0}, 16, []int{0}, none},
		{[]int{7, 7}, 1, []int{0}, 7},
		{[]int{8, 7}, 1, []int{1}, 8},
		{[]int{7, 8}, 1, []int{0}, 8},
		{[]int{4, 4, 1, 4}, 2, []int{2, 0}, 4},
		{[]int{4, 0, 4, 0, 4, 0}, 4, []int{1, 3, 5, 0}, 4},
		{[]int{0, 9, 0, 9, 0, 9}, 2, []int{0, 2}, 0},
		{[]int{9, 8, 7, 6, 5, 4, 3, 2, 1, 0}, 3, []int{9, 8, 7}, 3},
		{[]int{5, 900, 6, 20, 100, 7}, 3, []int{0, 2, 5}, 20},
		{[]int{10, 2, 30, 20, 1}, 2, []int{4, 1}, 10},
		{[]int{top, 0}, 1, []int{1}, top},
		{[]int{0, top}, 2, []int{0, 1}, none},
		{[]int{top, top, top - 1}, 2, []int{2, 0}, top},
		{[]int{top, top}, 1, []int{0}, top},
		{[]int{1 << 32, 1, 1<<32 + 1, 1 << 31}, 2, []int{1, 3}, 1 << 32},
	} {
		wantPick(t, nodes(c.scores...), c.b, c.places, c.cut)
	}
}

func TestPickNothing(t *testing.T) { // P11.1, R2: each b that may be, of no nodes
	for b := 1; b <= api.MaxBeam; b++ {
		for _, l := range [][]api.Node{nil, {}, make([]api.Node, 0, 20), make([]api.Node, 20)[:0]} {
			wantPick(t, l, b, nil, none)
		}
	}
}

func TestPickAlike(t *testing.T) { // P11.1, R6: of Scores that are all the same the first are kept
	for _, n := range append(rising(40), most-1, most) {
		for b := 1; b <= api.MaxBeam; b++ {
			for _, s := range []int{0, 1, 77, math.MaxInt} {
				cut := none
				if n > b {
					cut = s
				}
				wantPick(t, nodes(slices.Repeat([]int{s}, n)...), b, rising(min(b, n)), cut)
			}
		}
	}
}

func TestPickRisingAndFalling(t *testing.T) { // P11.1: b - 1, b, b + 1, all that may be, and others
	for b := 1; b <= api.MaxBeam; b++ {
		for _, n := range []int{1, b - 1, b, b + 1, b + 2, 3 * b, most - 1, most} {
			cut := none
			if n > b {
				cut = b
			}
			wantPick(t, nodes(rising(n)...), b, rising(min(b, n)), cut)
			wantPick(t, nodes(falling(n)...), b, falling(n)[:min(b, n)], cut)
		}
	}
}

func TestPickLeastAnywhere(t *testing.T) { // P11.1: one alone of less, or one alone of more, at each place
	for _, n := range []int{2, 3, 15, 16, 17, most} {
		for at := range n {
			scores := slices.Repeat([]int{9}, n)
			scores[at] = 3
			wantPick(t, nodes(scores...), 1, []int{at}, 9)
			scores[at] = 12
			places, cut := byRank(scores, 1)
			wantPick(t, nodes(scores...), 1, places, cut)
			if n <= api.MaxBeam {
				wantPick(t, nodes(scores...), n, append(slices.Delete(rising(n), at, at+1), at), none)
			}
		}
	}
}

func TestPickMany(t *testing.T) { // P11.1, R6: lists of each length that may be, with few Scores that are unlike and with many
	for n := range most + 1 {
		for _, bound := range []int{2, 3, 40, 1 << 20} {
			scores := numbers(n, bound, n+bound)
			for _, b := range beams {
				places, cut := byRank(scores, b)
				wantPick(t, nodes(scores...), b, places, cut)
			}
		}
	}
}

func TestPickEdgeBetween(t *testing.T) { // P11.1, R6: many of one Score where those that are kept end
	for b := 1; b <= api.MaxBeam; b++ {
		for less := range b {
			for _, alike := range []int{b - less, b - less + 1, b + 5} {
				for _, more := range []int{0, 1, 30} {
					scores := slices.Concat(slices.Repeat([]int{50}, more), slices.Repeat([]int{20}, alike), slices.Repeat([]int{10}, less))
					for _, turn := range []int{0, 1, len(scores) / 2, len(scores) - 1} {
						turned := slices.Concat(scores[turn:], scores[:turn])
						places, cut := byRank(turned, b)
						wantPick(t, nodes(turned...), b, places, cut)
					}
				}
			}
		}
	}
}

func TestPickShort(t *testing.T) { // P11.1: all lists of up to six Scores, each below 3, and each b
	for n := range 7 {
		for k := range int(math.Pow(3, float64(n))) {
			scores := make([]int, n)
			for i := range scores {
				scores[i] = k % 3
				k /= 3
			}
			for b := 1; b <= n+1; b++ {
				places, cut := byRank(scores, b)
				wantPick(t, nodes(scores...), b, places, cut)
			}
		}
	}
}
