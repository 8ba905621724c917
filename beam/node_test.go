package beam_test

import (
	"slices"
	"testing"

	"volute/api"
	"volute/beam"
)

// The states that these nibbles lead to are 1fce552 and b8e4fc2: their first symbols are 52 and c2, the second ones e5 and 4f.
var known = []int{0, 15}

func TestNodeKnown(t *testing.T) { // P12.1: worked out by hand
	for _, c := range []struct {
		syms       []api.Sym
		first, all int // the Metrics behind one nibble and behind both
	}{
		{nil, 0, 0},
		{[]api.Sym{{At: 0, Value: 0x52}}, 0, 0},
		{[]api.Sym{{At: 0, Value: 0x53}}, 1, 1},
		{[]api.Sym{{At: 0, Value: 0xad}}, 8, 8},
		{[]api.Sym{{At: 1, Value: 0xc2}}, 0, 0},
		{[]api.Sym{{At: 1, Value: 0xc0}}, 0, 1},
		{[]api.Sym{{At: 1, Value: 0x3d}}, 0, 8},
		{[]api.Sym{{At: 2, Value: 0xe4}}, 1, 1},
		{[]api.Sym{{At: 3, Value: 0x40}}, 0, 4},
		{[]api.Sym{{At: 0, Value: 0x50}, {At: 1, Value: 0xc0}}, 1, 2},
		{[]api.Sym{{At: 0, Value: 0x52}, {At: 1, Value: 0xc2}, {At: 2, Value: 0xe5}, {At: 3, Value: 0x4f}}, 0, 0},
		{[]api.Sym{{At: 0, Value: 0x42}, {At: 1, Value: 0xc1}, {At: 2, Value: 0xe2}, {At: 3, Value: 0x00}}, 4, 11},
		{[]api.Sym{{At: 0, Value: 0xad}, {At: 1, Value: 0x3d}, {At: 2, Value: 0x1a}, {At: 3, Value: 0xb0}}, 16, 32},
	} {
		p := right(t, 2, 2, c.syms...)
		wantNode(t, p, nil, 0x9e3779b9, 0)
		wantNode(t, p, known[:1], 0x01fce552, c.first)
		wantNode(t, p, known, 0x0b8e4fc2, c.all)
	}
}

func TestRoot(t *testing.T) { // P12.1: no Path, the state at first, Metric 0, whatever was heard
	for _, p := range append(piles(t), right(t, api.MaxSegs, api.MaxPasses), noise(t, api.MaxSegs, api.MaxPasses, 5000, 1)) {
		for _, path := range [][]int{nil, {}} {
			wantNode(t, p, path, 0x9e3779b9, 0)
			wantScore(t, p, path, 1, 0)
		}
	}
}

func TestNode(t *testing.T) { // P12.1: paths of each length that may be, of all nibbles
	for k, p := range append(piles(t), noise(t, 17, 5, 40, 1), noise(t, api.MaxSegs, 1, 50, 2), noise(t, api.MaxSegs, api.MaxPasses, 5000, 3)) {
		path := numbers(p.N, nibbles, k)
		for n := range p.N + 1 {
			wantNode(t, p, path[:n], stateOf(t, path[:n]), metricOf(t, p, path[:n]))
		}
		for x := range nibbles {
			for _, n := range []int{1, p.N} {
				all := slices.Repeat([]int{x}, n)
				wantNode(t, p, all, stateOf(t, all), metricOf(t, p, all))
			}
		}
	}
}

func TestNodeCostsMost(t *testing.T) { // P12.1, T6: eight for each symbol, as many as may be
	path := numbers(api.MaxSegs, nibbles, 5)
	p := ownPile(t, path, api.MaxPasses, func(_, _ int) bool { return true })
	wantNode(t, p, path, stateOf(t, path), 0)
	for i := range p.Syms {
		p.Syms[i].Value ^= 255
	}
	for n := range path {
		wantNode(t, p, path[:n], stateOf(t, path[:n]), 8*api.MaxPasses*n)
	}
	wantNode(t, p, path, stateOf(t, path), 8*api.MaxPasses*api.MaxSegs)
	for _, d := range depths {
		wantScore(t, p, path, d, 8*api.MaxPasses*api.MaxSegs)
	}
	for seed := range 20 {
		n, e := beam.Node(p, numbers(api.MaxSegs, nibbles, seed))
		if n.Metric < 0 || n.Metric > 8*len(p.Syms) || e != api.OK {
			t.Error(seed, n, e)
		}
	}
}

func TestScoreKnown(t *testing.T) { // P12.1: the child 15 costs nothing in the second segment, and no other one does
	p := right(t, 2, 4, api.Sym{At: 0, Value: 0x50}, api.Sym{At: 1, Value: 0xc2}, api.Sym{At: 3, Value: 0x4f}, api.Sym{At: 5, Value: 0x8e}, api.Sym{At: 7, Value: 0x0b})
	wantScore(t, p, known[:1], 1, 1)
	wantScore(t, p, known[:1], 2, 1)
	wantScore(t, p, known[:1], 3, 1)
	wantScore(t, p, known, 1, 1)
	wantScore(t, p, known, 3, 1)
	p.Syms[2].Value = 0x4e
	wantScore(t, p, known[:1], 1, 1)
	wantScore(t, p, known, 1, 2)
}

func TestScore(t *testing.T) { // P12.1: against all paths tried one by one, depths that reach beyond the end too
	for k, p := range append(piles(t), noise(t, 17, 5, 40, 1), noise(t, api.MaxSegs, 1, 50, 2)) {
		path := numbers(p.N, nibbles, k)
		for n := range p.N + 1 {
			for _, d := range depths {
				wantScore(t, p, path[:n], d, scoreOf(t, p, path[:n], d))
			}
		}
	}
}

func TestScoreOfEachNibble(t *testing.T) { // P12.1: of all short paths
	for seed := range 3 {
		p := noise(t, 3, 3, 7, seed)
		for x := range nibbles {
			for _, d := range depths {
				wantScore(t, p, []int{x}, d, scoreOf(t, p, []int{x}, d))
				for y := range nibbles {
					wantScore(t, p, []int{x, y}, d, scoreOf(t, p, []int{x, y}, d))
				}
			}
		}
	}
}

func TestScoreAtTheEnd(t *testing.T) { // P12.1: of a path of N nibbles it is its Metric, with each depth
	for k, p := range append(piles(t), noise(t, api.MaxSegs, api.MaxPasses, 500, 3)) {
		path := numbers(p.N, nibbles, 3*k)
		for _, d := range depths {
			wantScore(t, p, path, d, metricOf(t, p, path))
		}
	}
}

func TestScoreRises(t *testing.T) { // P12.1: it is at least the Metric, no less with a greater depth, and the least of the children's with one depth less
	for k, p := range append(piles(t), noise(t, api.MaxSegs, 4, 200, 4)) {
		path := numbers(p.N, nibbles, 5*k)
		for n := range p.N {
			behind := metricOf(t, p, path[:n])
			for _, d := range depths {
				got, e := beam.Score(p, path[:n], d)
				if got < behind || e != api.OK {
					t.Error(p, path[:n], d, got, e, behind)
				}
				behind = got
				if d == 1 {
					continue
				}
				var below []int
				for x := range nibbles {
					s, e := beam.Score(p, append(slices.Clone(path[:n]), x), d-1)
					if e != api.OK {
						t.Fatal(p, path[:n], x, e)
					}
					below = append(below, s)
				}
				if got != slices.Min(below) {
					t.Error(p, path[:n], d, got, below)
				}
			}
		}
	}
}
