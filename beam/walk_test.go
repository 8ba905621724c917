package beam_test

import (
	"slices"
	"testing"

	"volute/api"
	"volute/beam"
)

// plain is a node that costs nothing.
func plain(t *testing.T, path ...int) api.Node {
	t.Helper()
	return api.Node{State: stateOf(t, path), Path: path}
}

func TestWalkWithoutSymbols(t *testing.T) { // P12.2, R6: all cost nothing, so that the first of the first are kept
	for _, d := range depths {
		for b := 1; b <= api.MaxBeam; b++ {
			for _, n := range []int{1, 2, 3, 5, api.MaxSegs} {
				var want []api.Node
				for x := range b {
					want = append(want, plain(t, append(make([]int, n-1), x)...))
				}
				cut := 0
				if n == 1 && b == nibbles {
					cut = none
				}
				wantWalk(t, right(t, n, 4), b, d, want, cut)
			}
		}
	}
}

func TestWalkKnown(t *testing.T) { // P12.2: all four symbols of the state behind the nibble 0, then none of the next segment
	p := right(t, 2, 4, api.Sym{At: 0, Value: 0x52}, api.Sym{At: 2, Value: 0xe5}, api.Sym{At: 4, Value: 0xfc}, api.Sym{At: 6, Value: 0x01})
	for _, d := range depths {
		wantWalk(t, p, 1, d, []api.Node{plain(t, 0, 0)}, 0)
		wantWalk(t, p, 3, d, []api.Node{plain(t, 0, 0), plain(t, 0, 1), plain(t, 0, 2)}, 0)
	}
}

// wantSteps holds the walk to the one that goes step by step, and answers the cuts.
func wantSteps(t *testing.T, p api.Pile, b, d int) []int {
	t.Helper()
	want, cuts := walkOf(t, p, b, d)
	wantWalk(t, p, b, d, want, leastCut(cuts))
	return cuts
}

func TestWalk(t *testing.T) { // P12.2: step by step
	for _, p := range piles(t) {
		for _, b := range beams {
			for _, d := range depths {
				if p.N*b > 64 && d == api.MaxDepth {
					continue // all paths one by one are too many
				}
				wantSteps(t, p, b, d)
			}
		}
	}
}

func TestWalkEachBeam(t *testing.T) { // P12.2
	for seed := range 3 {
		p := noise(t, 3, 3, 6, 40+seed)
		for b := 1; b <= api.MaxBeam; b++ {
			wantSteps(t, p, b, 1)
			wantSteps(t, p, b, 2)
		}
	}
}

func TestWalkLong(t *testing.T) { // P12.2: as many segments as may be, with a small beam, and some fewer
	for k, p := range []api.Pile{
		noise(t, api.MaxSegs, 1, 60, 1), noise(t, api.MaxSegs, 4, 100, 2), noise(t, api.MaxSegs-1, 2, 90, 3), noise(t, 30, api.MaxPasses, 60, 4),
		ownPile(t, numbers(api.MaxSegs, nibbles, 9), 3, func(segment, index int) bool { return (segment+index)%4 != 0 }),
	} {
		wantSteps(t, p, 1, 1)
		wantSteps(t, p, 1+k, 1)
		wantSteps(t, p, 1, 2)
	}
	wantSteps(t, noise(t, 12, api.MaxPasses, 50, 5), 1, api.MaxDepth)
}

func TestWalkOneSegment(t *testing.T) { // P12.2: one step alone; cut is none just if all are kept
	for seed := range 20 {
		p := noise(t, 1, 3, 1+seed%3, seed)
		for b := 1; b <= api.MaxBeam; b++ {
			for _, d := range depths {
				if cuts := wantSteps(t, p, b, d); (cuts[0] == none) != (b == nibbles) {
					t.Error(p, b, d, cuts)
				}
			}
		}
	}
}

func TestCutEarlyAndLate(t *testing.T) { // P12.2: the least cut is told, wherever on the way it was: first, in between, last
	seen := map[int]int{}
	for seed := range 60 {
		p := turned(t, numbers(3, nibbles, seed), 4, 100+seed)
		for _, b := range []int{1, 2, 4} {
			cuts := wantSteps(t, p, b, 1)
			least := leastCut(cuts)
			if at := slices.Index(cuts, least); !slices.Contains(cuts[at+1:], least) {
				seen[at]++
			}
		}
	}
	for at := range 3 {
		if seen[at] == 0 {
			t.Errorf("no pile here has its least cut at the step %d alone", at)
		}
	}
}

func TestCutKnown(t *testing.T) { // P12.2: each symbol of the first segment alone, or of the last one alone
	path := []int{7, 1, 12}
	first := ownPile(t, path, 4, func(segment, _ int) bool { return segment == 0 })
	last := ownPile(t, path, 4, func(segment, _ int) bool { return segment == 2 })
	middle := ownPile(t, path, 4, func(segment, _ int) bool { return segment != 1 })
	for _, c := range []struct {
		p    api.Pile
		cuts []bool // which of them are 0, with one kept
	}{{first, []bool{false, true, true}}, {last, []bool{true, true, false}}, {middle, []bool{false, true, false}}} {
		cuts := wantSteps(t, c.p, 1, 1)
		for i, zero := range c.cuts {
			if (cuts[i] == 0) != zero {
				t.Error(c.p, cuts)
			}
		}
		if _, cut, e := beam.Walk(c.p, 1, 1); cut != 0 || e != api.OK {
			t.Error(c.p, cut, e)
		}
	}
}

func TestWalkIsByScore(t *testing.T) { // P12.2: a child that costs less is left out where what is ahead of it costs more
	unlike := 0
	for seed := range 20 {
		p := noise(t, 4, 4, 12, 300+seed)
		near, _, e := beam.Walk(p, 1, 1)
		far, _, f := beam.Walk(p, 1, 2)
		if e != api.OK || f != api.OK {
			t.Fatal(p, e, f)
		}
		wantSteps(t, p, 1, 2)
		if !slices.Equal(near[0].Path, far[0].Path) {
			unlike++
		}
	}
	if unlike == 0 {
		t.Error("no pile here tells the depths apart")
	}
}

func TestWalkOfNodes(t *testing.T) { // P12.2, P12.1: each of the list is the node behind its Path, its Score that of the path, by rising Score
	for _, p := range append(piles(t), noise(t, api.MaxSegs, api.MaxPasses, 3000, 4)) {
		for _, b := range beams {
			l, _, e := beam.Walk(p, b, 2)
			if len(l) != b || e != api.OK {
				t.Fatal(p, b, l, e)
			}
			behind := 0
			for _, n := range l {
				wantNode(t, p, n.Path, n.State, n.Metric)
				wantScore(t, p, n.Path, 2, n.Score)
				if len(n.Path) != p.N || n.Score != n.Metric || n.Score < behind {
					t.Error(p, b, n)
				}
				behind = n.Score
			}
		}
	}
}
