package rules

import (
	"fmt"
	"math"
	"slices"
	"testing"

	"volute/api"
	"volute/pick"
)

// filler is a node for the room behind a list, with a Path of its own.
func filler(n int) api.Node {
	return api.Node{State: uint32(n), Metric: n, Score: -n, Path: []int{n}}
}

// roomyNodes is a copy of l, with room behind its length and behind that of each Path, which is filled with n.
func roomyNodes(l []api.Node, n int) []api.Node {
	out := make([]api.Node, len(l), len(l)+room)
	for i, x := range l {
		x.Path = roomy([][]int{x.Path}, n)[0]
		out[i] = x
	}
	for i := range whole(out)[len(out):] {
		whole(out)[len(out)+i] = filler(n)
	}
	return out
}

// told is all that stands in nodes, and behind the lengths of their Paths, as one list.
func told(l []api.Node) []int {
	var out []int
	for _, n := range l {
		out = append(out, int(n.State), n.Metric, n.Score, len(n.Path), cap(n.Path))
		out = append(out, whole(n.Path)...)
	}
	return out
}

// toldShort is what stands in nodes within the lengths of their Paths.
func toldShort(l []api.Node) []int {
	var out []int
	for _, n := range l {
		out = append(out, int(n.State), n.Metric, n.Score, len(n.Path))
		out = append(out, n.Path...)
	}
	return out
}

// spoilNodes writes all over nodes, their Paths, and the room behind both.
func spoilNodes(l []api.Node) {
	for i := range whole(l) {
		n := &whole(l)[i]
		spoil(n.Path)
		*n = api.Node{State: ^n.State, Metric: ^n.Metric, Score: ^n.Score, Path: n.Path}
	}
}

// handed is what is handed in to a call that answers nodes: how it is made, with n in the room behind it, told, and spoilt.
type handed[In any] struct {
	give  func(n int) In
	told  func(In) []int
	spoil func(In)
}

// checkNodes holds call to R2, R4 and R6, as checkLists does for lists whose elements have no memory of their own.
func checkNodes[In any](t *testing.T, name string, in handed[In], call func(In) ([]api.Node, int, api.Errno)) {
	t.Helper()
	given := in.give(1)
	was := in.told(given)
	first, cut, e := call(given)
	want := toldShort(first)
	second, _, _ := call(given)
	kept := told(whole(second))
	if other, c, f := call(in.give(2)); !slices.Equal(toldShort(other), want) || !slices.Equal(told(whole(other)), kept) || c != cut || f != e {
		t.Errorf("%s: the answer hangs on what lies behind a length", name)
	}
	if e != api.OK && (len(want) != 0 || cut != 0) {
		t.Errorf("%s: %v, %d beside an error", name, first, cut)
	}
	for i := range first {
		behind := toldShort(first[i+1:])
		spoilNodes(first[i : i+1 : i+1])
		if !slices.Equal(toldShort(first[i+1:]), behind) {
			t.Errorf("%s: two Paths of one answer share memory", name)
		}
	}
	// What is spoilt twice is as it was: the room alone is left to be spoilt.
	spoilNodes(whole(first)[len(first):])
	if !slices.Equal(in.told(given), was) {
		t.Errorf("%s: what was handed in is changed, or shared with the answer", name)
	}
	third, _, _ := call(given)
	if !slices.Equal(told(whole(second)), kept) || !slices.Equal(toldShort(third), want) {
		t.Errorf("%s: one answer is touched by another one", name)
	}
	in.spoil(given)
	if !slices.Equal(toldShort(second), want) {
		t.Errorf("%s: the answer changes with what was handed in", name)
	}
}

func checkPick(t *testing.T, l []api.Node, b int) {
	t.Helper()
	checkNodes(t, fmt.Sprintf("Pick of %v, %d", l, b), handed[[]api.Node]{
		give:  func(n int) []api.Node { return roomyNodes(l, n) },
		told:  func(l []api.Node) []int { return told(whole(l)) },
		spoil: spoilNodes,
	}, func(l []api.Node) ([]api.Node, int, api.Errno) { return pick.Pick(l, b) })
}

// scored are n nodes with these Scores, round by round, and Paths of unlike lengths, one of them nil and one empty.
func scored(n int, scores ...int) []api.Node {
	l := make([]api.Node, n)
	for i := range l {
		l[i] = api.Node{State: uint32(i), Metric: 3 * i, Score: scores[i%len(scores)], Path: make([]int, i%7)}
		for k := range l[i].Path {
			l[i].Path[k] = i + k
		}
	}
	if n > 0 {
		l[0].Path = nil
	}
	return l
}

func TestPick(t *testing.T) {
	const most = 16 * api.MaxBeam
	for _, n := range []int{0, 1, 2, 3, 15, 16, 17, 40, most - 1, most, most + 1} {
		for _, scores := range [][]int{{0}, {7}, {3, 1, 2, 1}, {9, 8, 7, 6, 5, 4, 3, 2, 1, 0}, {0, math.MaxInt}, {5, 5, 5, -1}, {math.MinInt}} {
			for _, b := range []int{math.MinInt, -1, 0, 1, 2, 3, 15, 16, 17, math.MaxInt} {
				checkPick(t, scored(n, scores...), b)
			}
		}
	}
}

func TestPickSharedPaths(t *testing.T) { // nodes that share one Path, or one memory of Paths, are kept with a Path each
	memory := []int{1, 2, 3, 4, 5, 6}
	l := []api.Node{
		{Score: 1, Path: memory}, {Score: 1, Path: memory}, {Score: 0, Path: memory[:3]}, {Score: 2, Path: memory[2:4]}, {Score: 1, Path: memory[:0]}, {Score: 0, Path: memory[5:]},
	}
	was := told(l)
	for b := 1; b <= 8; b++ {
		kept, _, e := pick.Pick(l, b)
		if e != api.OK {
			t.Fatal(b, e)
		}
		for i := range kept {
			others := slices.Concat(toldShort(kept[:i]), toldShort(kept[i+1:]))
			spoil(kept[i].Path)
			if !slices.Equal(slices.Concat(toldShort(kept[:i]), toldShort(kept[i+1:])), others) || !slices.Equal(told(l), was) {
				t.Errorf("%d: the Path of %d is shared", b, i)
			}
		}
	}
}

func TestPickNilIsEmpty(t *testing.T) {
	for b := range api.MaxBeam + 2 {
		bare, c, e := pick.Pick(nil, b)
		empty, d, f := pick.Pick([]api.Node{}, b)
		if len(bare) != 0 || len(empty) != 0 || c != d || e != f {
			t.Error(b, bare, c, e, empty, d, f)
		}
		without, c, e := pick.Pick([]api.Node{{Score: 4}, {Score: 2}}, b)
		with, d, f := pick.Pick([]api.Node{{Score: 4, Path: []int{}}, {Score: 2, Path: []int{}}}, b)
		if !slices.Equal(toldShort(without), toldShort(with)) || c != d || e != f {
			t.Error(b, without, c, e, with, d, f)
		}
	}
}

func TestPickBehindTheLength(t *testing.T) { // lesser Scores behind the length, wrong ones, and more nodes than may be
	const most = 16 * api.MaxBeam
	l := append(scored(most, 9, 8, 8, 7), scored(20, 0, -1, 6)...)
	was := told(l)
	for n := range l {
		kept, cut, e := pick.Pick(l[:n], 5)
		want, c, f := pick.Pick(slices.Clone(l[:n]), 5)
		if !slices.Equal(toldShort(kept), toldShort(want)) || cut != c || e != f || (e == api.OK) != (n <= most) {
			t.Error(n, kept, cut, e, want, c, f)
		}
		spoilNodes(kept)
		if !slices.Equal(told(l), was) {
			t.Fatal(n, "what lies behind the length is changed")
		}
	}
}
