package beam_test

import (
	"cmp"
	"math"
	"math/bits"
	"slices"
	"testing"

	"volute/api"
	"volute/beam"
	"volute/pile"
	"volute/sched"
	"volute/spine"
	"volute/symbol"
)

// nibbles is how many there are.
const nibbles = 16

// none is the cut where no one is left out.
const none = -1

// depths are all that may be.
var depths = []int{1, 2, api.MaxDepth}

// beams are some that may be.
var beams = []int{1, 2, 3, 5, api.MaxBeam - 1, api.MaxBeam}

// right answers a pile of these symbols, and holds it to be one.
func right(t *testing.T, n, passes int, l ...api.Sym) api.Pile {
	t.Helper()
	p := api.Pile{N: n, Passes: passes, Syms: l}
	if e := pile.Check(p); e != api.OK {
		t.Fatal(p, e)
	}
	return p
}

// numbers are n numbers from 0 on and below bound, without a plan.
func numbers(n, bound, seed int) []int {
	out := make([]int, n)
	x := uint32(seed)*2654435761 + 99
	for i := range out {
		x = x*1664525 + 1013904223
		out[i] = int(x>>8) % bound
	}
	return out
}

// noise is a pile of at most many symbols that are no path's.
func noise(t *testing.T, n, passes, many, seed int) api.Pile {
	t.Helper()
	at := numbers(many, n*passes, seed)
	slices.Sort(at)
	at = slices.Compact(at)
	l := make([]api.Sym, len(at))
	for i, value := range numbers(len(at), 256, seed+1000) {
		l[i] = api.Sym{At: at[i], Value: value}
	}
	return right(t, n, passes, l...)
}

// ownAt answers the symbol of path at the place k, and of which segment and index it is.
func ownAt(t *testing.T, path []int, k int) (x api.Sym, segment, index int) {
	t.Helper()
	states, e := spine.States(path)
	segment, index, f := sched.At(len(path), k)
	if e != api.OK || f != api.OK {
		t.Fatal(path, k, e, f)
	}
	value, e := symbol.Of(states[segment], index)
	if e != api.OK {
		t.Fatal(path, k, e)
	}
	return api.Sym{At: k, Value: value}, segment, index
}

// ownPile is a pile of those of the path's own symbols for which keep holds, asked by segment and index.
func ownPile(t *testing.T, path []int, passes int, keep func(segment, index int) bool) api.Pile {
	t.Helper()
	var l []api.Sym
	for k := range len(path) * passes {
		if x, segment, index := ownAt(t, path, k); keep(segment, index) {
			l = append(l, x)
		}
	}
	return right(t, len(path), passes, l...)
}

// turned is a pile of the path's own symbols, some left out, some with bits turned.
func turned(t *testing.T, path []int, passes, seed int) api.Pile {
	t.Helper()
	there := numbers(len(path)*passes, 5, seed)
	p := ownPile(t, path, passes, func(segment, index int) bool { return there[segment*passes+index] != 0 })
	masks := numbers(len(p.Syms), 16, seed+500)
	for i := range p.Syms {
		p.Syms[i].Value ^= masks[i] & (masks[i] >> 1) << (seed % 5)
	}
	return p
}

// metricOf goes through the symbols one by one, each with its segment, where the program goes through the segments.
func metricOf(t *testing.T, p api.Pile, path []int) int {
	t.Helper()
	states, e := spine.States(path)
	if e != api.OK {
		t.Fatal(path, e)
	}
	sum := 0
	for _, x := range p.Syms {
		segment, index, e := sched.At(p.N, x.At)
		if e != api.OK {
			t.Fatal(p, x, e)
		}
		if segment >= len(path) {
			continue
		}
		own, e := symbol.Of(states[segment], index)
		if e != api.OK {
			t.Fatal(states[segment], index, e)
		}
		sum += bits.OnesCount(uint(own ^ x.Value))
	}
	return sum
}

// scoreOf tries all paths that begin with path and are of the depth that the Score asks, one by one.
func scoreOf(t *testing.T, p api.Pile, path []int, d int) int {
	t.Helper()
	more := min(d-1, p.N-len(path))
	least := math.MaxInt
	for k := range 1 << (4 * more) {
		whole := slices.Clone(path)
		for i := range more {
			whole = append(whole, k>>(4*i)%nibbles)
		}
		least = min(least, metricOf(t, p, whole))
	}
	return least
}

func stateOf(t *testing.T, path []int) uint32 {
	t.Helper()
	states, e := spine.States(path)
	if e != api.OK {
		t.Fatal(path, e)
	}
	return append([]uint32{0x9e3779b9}, states...)[len(path)]
}

// walkOf goes step by step, by sorting all children, and tells the cut of each step.
func walkOf(t *testing.T, p api.Pile, b, d int) (l []api.Node, cuts []int) {
	t.Helper()
	l = []api.Node{{}}
	for range p.N {
		var all []api.Node
		for _, n := range l {
			for x := range nibbles {
				path := append(slices.Clone(n.Path), x)
				all = append(all, api.Node{State: stateOf(t, path), Metric: metricOf(t, p, path), Score: scoreOf(t, p, path, d), Path: path})
			}
		}
		slices.SortStableFunc(all, func(a, b api.Node) int { return cmp.Compare(a.Score, b.Score) })
		cut := none
		if len(all) > b {
			cut = all[b].Score
		}
		l, cuts = all[:min(b, len(all))], append(cuts, cut)
	}
	return l, cuts
}

// leastCut is the least of those cuts that are one.
func leastCut(cuts []int) int {
	are := slices.DeleteFunc(slices.Clone(cuts), func(cut int) bool { return cut == none })
	if len(are) == 0 {
		return none
	}
	return slices.Min(are)
}

func same(a, b api.Node) bool {
	return a.State == b.State && a.Metric == b.Metric && a.Score == b.Score && slices.Equal(a.Path, b.Path)
}

func wantNode(t *testing.T, p api.Pile, path []int, state uint32, metric int) {
	t.Helper()
	want := api.Node{State: state, Metric: metric, Path: path}
	if got, e := beam.Node(p, path); !same(got, want) || e != api.OK {
		t.Errorf("Node(%v, %v) = %v, %d, not %v", p, path, got, e, want)
	}
}

func wantScore(t *testing.T, p api.Pile, path []int, d, want int) {
	t.Helper()
	if got, e := beam.Score(p, path, d); got != want || e != api.OK {
		t.Errorf("Score(%v, %v, %d) = %d, %d, not %d", p, path, d, got, e, want)
	}
}

func wantWalk(t *testing.T, p api.Pile, b, d int, want []api.Node, cut int) {
	t.Helper()
	l, got, e := beam.Walk(p, b, d)
	if !slices.EqualFunc(l, want, same) || got != cut || e != api.OK {
		t.Errorf("Walk(%v, %d, %d) = %v, %d, %d, not %v, %d", p, b, d, l, got, e, want, cut)
	}
}

func wantPath(t *testing.T, p api.Pile, b, d int, want []int, metric int) {
	t.Helper()
	path, got, e := beam.Decode(p, b, d)
	if !slices.Equal(path, want) || got != metric || e != api.OK {
		t.Errorf("Decode(%v, %d, %d) = %v, %d, %d, not %v, %d", p, b, d, path, got, e, want, metric)
	}
}

func wantTie(t *testing.T, p api.Pile, b, d int) {
	t.Helper()
	if path, metric, e := beam.Decode(p, b, d); len(path) != 0 || metric != 0 || e != api.ErrTie {
		t.Errorf("Decode(%v, %d, %d) = %v, %d, %d, and not a tie", p, b, d, path, metric, e)
	}
}

// piles are such that may be, of few segments: without symbols, with few, with many, with all.
func piles(t *testing.T) []api.Pile {
	t.Helper()
	list := []api.Pile{
		right(t, 1, 1), right(t, 3, 4), noise(t, 1, 1, 1, 1), noise(t, 1, 4, 20, 2), noise(t, 2, 1, 2, 3), noise(t, 2, 16, 20, 4), noise(t, 2, 3, 50, 5),
		noise(t, 3, 4, 6, 6), noise(t, 3, 2, 50, 7), noise(t, 3, 16, 200, 8), noise(t, 4, 1, 50, 9), noise(t, 4, 4, 9, 10), noise(t, 5, 2, 7, 11),
	}
	for seed := range 4 {
		path := numbers(1+seed, nibbles, seed)
		list = append(list, ownPile(t, path, 4, func(segment, index int) bool { return (segment+index+seed)%3 != 0 }))
	}
	return list
}
