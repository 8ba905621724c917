package rules

import (
	"math"
	"slices"
	"testing"

	"volute/api"
	"volute/cut"
)

func textsOf(blocks []api.Block) [][]byte {
	var lists [][]byte
	for _, b := range blocks {
		lists = append(lists, b.Text)
	}
	return lists
}

// checkCut asks about the texts in both orders, so that each is spoilt ahead of each other one, and about the numbers and marks.
func checkCut(t *testing.T, c api.Config, seq int, msg []byte) {
	t.Helper()
	forward := func(in [][]byte) ([][]byte, api.Errno) {
		blocks, err := cut.Cut(c, seq, in[0])
		return textsOf(blocks), err
	}
	backward := func(in [][]byte) ([][]byte, api.Errno) {
		lists, err := forward(in)
		slices.Reverse(lists)
		return lists, err
	}
	numbers := func(msg []byte) ([]int, api.Errno) {
		blocks, err := cut.Cut(c, seq, msg)
		var list []int
		for _, b := range blocks {
			list = append(list, b.Seq, b.Mark)
		}
		return list, err
	}
	checkLists(t, "Cut", forward, msg)
	checkLists(t, "Cut", backward, msg)
	checkLists(t, "Cut", one(numbers), msg)
}

func TestCut(t *testing.T) { // right ones, too long ones, numbers that may not be, Configs that are not right
	for _, c := range sends() {
		for _, seq := range []int{math.MinInt, -1, 0, 5, api.MaxSeq - 8, api.MaxSeq - 1, api.MaxSeq, math.MaxInt} {
			for n := range min(c.Msg, 40) + 2 {
				checkCut(t, c, seq, fill(n))
			}
			checkCut(t, c, seq, fill(c.Msg))
			checkCut(t, c, seq, fill(c.Msg+1))
		}
	}
}

func TestCutBehindTheLength(t *testing.T) { // more bytes in memory than are handed in: a short last block is not filled up with them
	c := sends()[0]
	memory := fill(2 * c.Msg)
	was := slices.Clone(memory)
	for n := range c.Msg + 1 {
		blocks, err := cut.Cut(c, 5, memory[:n])
		if got := slices.Concat(textsOf(blocks)...); !slices.Equal(got, was[:n]) || err != api.OK {
			t.Error(n, got, err)
		}
		for _, b := range blocks {
			spoil(b.Text)
		}
		if !slices.Equal(memory, was) {
			t.Fatal(n, "what was handed in is changed")
		}
	}
}

func TestCutTextsApart(t *testing.T) { // no two texts share memory, spare room too, of one answer and of two
	c := sends()[0]
	for n := range c.Msg + 1 {
		a, e := cut.Cut(c, 5, fill(n))
		b, f := cut.Cut(c, 5, fill(n))
		if e != api.OK || f != api.OK {
			t.Fatal(n, e, f)
		}
		lists := append(textsOf(a), textsOf(b)...)
		for i := range lists {
			was := wholes(lists)
			spoil(lists[i])
			was[i] = slices.Clone(whole(lists[i]))
			if !equal(wholes(lists), was) {
				t.Error(n, i)
			}
		}
	}
}

func TestCutBlocksApart(t *testing.T) { // the list of blocks is new memory in each answer, spare room too
	c := sends()[0]
	for n := range c.Msg + 1 {
		a, _ := cut.Cut(c, 5, fill(n))
		b, _ := cut.Cut(c, 5, fill(n))
		for i := range whole(a) {
			whole(a)[i] = api.Block{Seq: -1, Mark: -1, Text: []byte("other")}
		}
		for i, x := range whole(b) {
			if x.Seq == -1 || i < len(b) && x.Seq != 5+i {
				t.Error(n, i, x)
			}
		}
	}
}
