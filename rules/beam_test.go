package rules

import (
	"fmt"
	"math"
	"slices"
	"testing"

	"volute/api"
	"volute/beam"
)

// syms are lists of symbols for piles of three segments and two passes, right ones and wrong ones.
var syms = [][]api.Sym{
	{}, {{At: 0, Value: 0x52}}, {{At: 1, Value: 9}, {At: 4, Value: 200}}, {{At: 5, Value: 255}}, heard(5), heard(6),
	{{At: 0, Value: 0x52}, {At: 1, Value: 0xc2}, {At: 2, Value: 77}, {At: 3, Value: 0xe5}, {At: 4, Value: 0x4f}, {At: 5, Value: 3}},
	heard(7), {{At: 2}, {At: 2}}, {{At: -1}}, {{At: 1, Value: 256}},
}

// paths are such for these piles, right ones and wrong ones.
var paths = [][]int{{}, {0}, {15}, {0, 15}, {3, 4, 5}, {3, 4, 5, 6}, {16}, {1, -1}, {math.MaxInt}, {1, 2, math.MinInt}}

func threes(l []api.Sym) api.Pile { return api.Pile{N: 3, Passes: 2, Syms: l} }

func pathOf(n api.Node, e api.Errno) ([]int, api.Errno) { return n.Path, e }

func TestBeamSymbols(t *testing.T) { // of what is handed in, the symbols
	for _, l := range syms {
		for _, path := range paths {
			node := func(l []api.Sym) ([]int, api.Errno) { return pathOf(beam.Node(threes(l), path)) }
			checkLists(t, "Node", one(node), l)
			for d := range api.MaxDepth + 2 {
				score := func(l []api.Sym) (int, api.Errno) { return beam.Score(threes(l), path, d) }
				checkLists(t, "Score", number(score), l)
			}
		}
		for _, b := range []int{-1, 0, 1, 2, 5, 16, 17} {
			for d := range api.MaxDepth + 2 {
				decode := func(l []api.Sym) ([]int, api.Errno) {
					path, _, e := beam.Decode(threes(l), b, d)
					return path, e
				}
				checkLists(t, "Decode", one(decode), l)
			}
		}
	}
}

func TestBeamPaths(t *testing.T) { // of what is handed in, the path
	for _, path := range paths {
		for _, l := range syms {
			node := func(path []int) ([]int, api.Errno) { return pathOf(beam.Node(threes(l), path)) }
			checkLists(t, "Node", one(node), path)
			for d := range api.MaxDepth + 2 {
				score := func(path []int) (int, api.Errno) { return beam.Score(threes(l), path, d) }
				checkLists(t, "Score", number(score), path)
			}
		}
	}
}

func TestNodeBesideAnError(t *testing.T) { // R4: all of it is zero
	for _, path := range paths {
		for _, l := range syms {
			if n, e := beam.Node(threes(l), path); e != api.OK && !slices.Equal(toldShort([]api.Node{n}), make([]int, 4)) {
				t.Error(l, path, n, e)
			}
		}
	}
}

// checkWalk holds Walk's whole answer to the rules: the list, its nodes, their Paths.
func checkWalk(t *testing.T, n, passes int, l []api.Sym, b, d int) {
	t.Helper()
	checkNodes(t, fmt.Sprintf("Walk of %d, %d, %v, %d, %d", n, passes, l, b, d), handed[api.Pile]{
		give: func(x int) api.Pile { return api.Pile{N: n, Passes: passes, Syms: roomy([][]api.Sym{l}, x)[0]} },
		told: func(p api.Pile) []int {
			out := []int{p.N, p.Passes, len(p.Syms)}
			for _, s := range whole(p.Syms) {
				out = append(out, s.At, s.Value)
			}
			return out
		},
		spoil: func(p api.Pile) { spoil(p.Syms) },
	}, func(p api.Pile) ([]api.Node, int, api.Errno) { return beam.Walk(p, b, d) })
}

func TestWalk(t *testing.T) {
	for _, l := range syms {
		for _, b := range []int{math.MinInt, -1, 0, 1, 2, 3, 15, 16, 17, math.MaxInt} {
			for _, d := range []int{math.MinInt, 0, 1, 2, 3, 4, math.MaxInt} {
				checkWalk(t, 3, 2, l, b, d)
			}
		}
	}
	for _, n := range []int{0, 1, 2, 9, api.MaxSegs, api.MaxSegs + 1} {
		for _, passes := range []int{0, 1, api.MaxPasses, api.MaxPasses + 1} {
			checkWalk(t, n, passes, heard(n), 4, 1)
			checkWalk(t, n, passes, heard(n*passes/2), api.MaxBeam, 1)
		}
	}
}

func TestBeamBehindTheLength(t *testing.T) { // symbols and nibbles behind the lengths, right ones and wrong ones, and more than may be
	l := append(heard(12), api.Sym{At: 3, Value: 256}, api.Sym{At: -1})
	path := []int{1, 2, 3, 15, 16, -1}
	was, before := slices.Clone(l), slices.Clone(path)
	for n := range l {
		for k := range path {
			got, e := beam.Node(api.Pile{N: 4, Passes: 3, Syms: l[:n]}, path[:k])
			want, f := beam.Node(api.Pile{N: 4, Passes: 3, Syms: slices.Clone(was[:n])}, slices.Clone(before[:k]))
			if !slices.Equal(toldShort([]api.Node{got}), toldShort([]api.Node{want})) || e != f || (e == api.OK) != (n <= 12 && k <= 4) {
				t.Error(n, k, got, e, want, f)
			}
			spoil(got.Path)
		}
		list, cut, e := beam.Walk(api.Pile{N: 4, Passes: 3, Syms: l[:n]}, 3, 2)
		want, c, f := beam.Walk(api.Pile{N: 4, Passes: 3, Syms: slices.Clone(was[:n])}, 3, 2)
		if !slices.Equal(toldShort(list), toldShort(want)) || cut != c || e != f || (e == api.OK) != (n <= 12) {
			t.Error(n, list, cut, e, want, c, f)
		}
		spoilNodes(list)
		if !slices.Equal(l, was) || !slices.Equal(path, before) {
			t.Fatal(n, l, path)
		}
	}
}
