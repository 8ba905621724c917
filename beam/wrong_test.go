package beam_test

import (
	"math"
	"slices"
	"testing"

	"volute/api"
	"volute/beam"
)

// noPile are piles that are none, with each thing that may be wrong.
func noPile() []api.Pile {
	list := []api.Pile{{}}
	for _, n := range []int{-1, 0, api.MaxSegs + 1, 1 << 32, 1<<32 + 2, math.MaxInt, math.MinInt} {
		list = append(list, api.Pile{N: n, Passes: 4}, api.Pile{N: n, Passes: 4, Syms: []api.Sym{{At: 0, Value: 1}}}, api.Pile{N: n, Passes: n})
	}
	for _, passes := range []int{-1, 0, api.MaxPasses + 1, 1 << 32, 1<<32 + 2, math.MaxInt, math.MinInt} {
		list = append(list, api.Pile{N: 3, Passes: passes}, api.Pile{N: 3, Passes: passes, Syms: []api.Sym{{At: 0, Value: 1}}})
	}
	for _, at := range []int{-1, 12, 13, 1 << 32, math.MaxInt, math.MinInt} {
		list = append(list, api.Pile{N: 3, Passes: 4, Syms: []api.Sym{{At: at}}})
		list = append(list, api.Pile{N: 3, Passes: 4, Syms: []api.Sym{{At: 2}, {At: at}}})
	}
	for _, value := range []int{-1, 256, 1 << 32, math.MaxInt, math.MinInt} {
		list = append(list, api.Pile{N: 3, Passes: 4, Syms: []api.Sym{{At: 0, Value: value}}})
		list = append(list, api.Pile{N: 3, Passes: 4, Syms: []api.Sym{{At: 0}, {At: 11, Value: value}}})
	}
	list = append(list, api.Pile{N: 3, Passes: 4, Syms: []api.Sym{{At: 5}, {At: 5}}})
	list = append(list, api.Pile{N: 3, Passes: 4, Syms: []api.Sym{{At: 5}, {At: 4}}})
	return append(list, api.Pile{N: 3, Passes: 4, Syms: make([]api.Sym, 5000)})
}

// noBeam are numbers that b may not be.
var noBeam = []int{-1, 0, api.MaxBeam + 1, api.MaxBeam + 2, -api.MaxBeam, 256, 257, 1 << 32, 1<<32 + 1, -1 << 32, math.MaxInt, math.MaxInt - 1, math.MinInt, math.MinInt + 1}

// noDepth are numbers that d may not be.
var noDepth = []int{-1, 0, api.MaxDepth + 1, api.MaxDepth + 2, -api.MaxDepth, 256, 257, 1 << 32, 1<<32 + 1, -1 << 32, math.MaxInt, math.MaxInt - 1, math.MinInt, math.MinInt + 1}

// noNibble are numbers that are none.
var noNibble = []int{-1, nibbles, nibbles + 1, -nibbles, 256, 1 << 32, 1<<32 + 1, -1 << 32, math.MaxInt, math.MinInt}

func wantNoNode(t *testing.T, p api.Pile, path []int) {
	t.Helper()
	if n, e := beam.Node(p, path); !same(n, api.Node{}) || e != api.ErrArg {
		t.Errorf("Node(%v, %v) = %v, %d", p, path, n, e)
	}
}

func wantNoScore(t *testing.T, p api.Pile, path []int, d int) {
	t.Helper()
	if s, e := beam.Score(p, path, d); s != 0 || e != api.ErrArg {
		t.Errorf("Score(%v, %v, %d) = %d, %d", p, path, d, s, e)
	}
}

// wantNoWalk holds Walk and Decode to ErrArg.
func wantNoWalk(t *testing.T, p api.Pile, b, d int) {
	t.Helper()
	if l, cut, e := beam.Walk(p, b, d); len(l) != 0 || cut != 0 || e != api.ErrArg {
		t.Errorf("Walk(%v, %d, %d) = %v, %d, %d", p, b, d, l, cut, e)
	}
	if path, metric, e := beam.Decode(p, b, d); len(path) != 0 || metric != 0 || e != api.ErrArg {
		t.Errorf("Decode(%v, %d, %d) = %v, %d, %d", p, b, d, path, metric, e)
	}
}

func TestNoPile(t *testing.T) { // P12.1, R1, R4: beside arguments that may be, and beside such that may not
	for _, p := range noPile() {
		for _, path := range [][]int{nil, {0}, {1, 2, 3}, {1, 2, 3, 4}, {-1}, {16}, make([]int, 100)} {
			wantNoNode(t, p, path)
			for _, d := range []int{-1, 0, 1, api.MaxDepth, api.MaxDepth + 1, math.MaxInt, math.MinInt} {
				wantNoScore(t, p, path, d)
			}
		}
		for _, b := range append(slices.Clone(noBeam), 1, api.MaxBeam) {
			for _, d := range append(slices.Clone(noDepth), 1, api.MaxDepth) {
				wantNoWalk(t, p, b, d)
			}
		}
	}
}

func TestPathTooLong(t *testing.T) { // P12.1, R4: N, N + 1, and more
	for _, n := range []int{1, 2, 3, 16, api.MaxSegs - 1, api.MaxSegs} {
		for _, p := range []api.Pile{right(t, n, 2), noise(t, n, 2, 2*n, n)} {
			wantNode(t, p, make([]int, n), stateOf(t, make([]int, n)), metricOf(t, p, make([]int, n)))
			for _, long := range []int{n + 1, n + 2, 2 * n, 2*n + 1, n + 256, 1 << 16} {
				wantNoNode(t, p, slices.Repeat([]int{5}, max(long, n+1)))
				for _, d := range depths {
					wantNoScore(t, p, slices.Repeat([]int{5}, max(long, n+1)), d)
				}
			}
		}
	}
}

func TestNibbleWrong(t *testing.T) { // P12.1, R1, R4: at each place of paths of each length, and in paths that are too long
	p := noise(t, 5, 4, 12, 1)
	for n := 1; n <= p.N+2; n++ {
		for at := range n {
			for _, wrong := range noNibble {
				path := numbers(n, nibbles, n)
				path[at] = wrong
				wantNoNode(t, p, path)
				for _, d := range []int{0, 1, 2, api.MaxDepth, api.MaxDepth + 1} {
					wantNoScore(t, p, path, d)
				}
			}
		}
	}
	for _, edge := range []int{0, 15} {
		path := slices.Repeat([]int{edge}, p.N)
		wantNode(t, p, path, stateOf(t, path), metricOf(t, p, path))
		wantScore(t, p, path[:2], 2, scoreOf(t, p, path[:2], 2))
	}
}

func TestDepthWrong(t *testing.T) { // P12.1, P12.2, P12.3, R1, R4
	for _, p := range []api.Pile{right(t, 1, 1), noise(t, 3, 4, 8, 1), noise(t, api.MaxSegs, 4, 99, 2)} {
		for _, d := range noDepth {
			for n := range min(p.N, 4) + 1 {
				wantNoScore(t, p, make([]int, n), d)
			}
			for _, b := range append(slices.Clone(noBeam), 1, 2, api.MaxBeam) {
				wantNoWalk(t, p, b, d)
			}
		}
	}
}

func TestBeamWrong(t *testing.T) { // P12.2, P12.3, R1, R4
	for _, p := range []api.Pile{right(t, 1, 1), noise(t, 3, 4, 8, 1), noise(t, api.MaxSegs, 4, 99, 2)} {
		for _, b := range noBeam {
			for _, d := range depths {
				wantNoWalk(t, p, b, d)
			}
		}
	}
}

func TestEdgesThatMayBe(t *testing.T) { // P12.2, P12.3, R1: the least and the greatest of all
	for _, p := range []api.Pile{right(t, 1, 1), noise(t, 1, api.MaxPasses, 99, 1), noise(t, api.MaxSegs, 1, 40, 2), noise(t, api.MaxSegs, api.MaxPasses, 9999, 3)} {
		for _, b := range []int{1, api.MaxBeam} {
			for _, d := range []int{1, api.MaxDepth} {
				l, cut, e := beam.Walk(p, b, d)
				if len(l) != b || e != api.OK {
					t.Fatal(p.N, p.Passes, b, d, l, e)
				}
				wantDecoded(t, p, b, d, l, cut)
			}
		}
	}
}

func TestAgain(t *testing.T) { // R3: an answer hangs neither on what was asked ahead of it nor on how often
	list := piles(t)
	type answer struct {
		l   []api.Node
		cut int
	}
	ahead := make([]answer, len(list))
	for i, p := range list {
		l, cut, e := beam.Walk(p, 1+i%api.MaxBeam, 1+i%2)
		if e != api.OK {
			t.Fatal(p, e)
		}
		ahead[i] = answer{l, cut}
	}
	for i := len(list) - 1; i >= 0; i-- {
		wantNoNode(t, list[i], make([]int, api.MaxSegs+1))
		wantNoWalk(t, list[i], 0, 1)
		for range 2 {
			wantWalk(t, list[i], 1+i%api.MaxBeam, 1+i%2, ahead[i].l, ahead[i].cut)
			wantDecoded(t, list[i], 1+i%api.MaxBeam, 1+i%2, ahead[i].l, ahead[i].cut)
			path := ahead[i].l[0].Path
			wantNode(t, list[i], path, ahead[i].l[0].State, ahead[i].l[0].Metric)
			wantScore(t, list[i], path, 2, ahead[i].l[0].Score)
		}
	}
}
