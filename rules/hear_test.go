package rules

import (
	"math"
	"slices"
	"testing"

	"volute/api"
	"volute/block"
	"volute/code"
	"volute/hear"
)

// hears are Configs of blocks that are heard: two right ones, and two that are not.
func hears() []api.Config {
	plain := api.Config{Bytes: 1, Beam: 4, Depth: 1, Window: 6, Qs: 7, Qr: 8, Batch: 9, Passes: 5, Msg: 30, Seqs: 1000}
	wide := plain
	wide.Bytes, wide.Passes, wide.Depth = 6, 4, 2
	wrong := plain
	wrong.Depth = 4
	return []api.Config{plain, wide, wrong, {}}
}

// told3 are the bytes of a block of the number 3, and its first n symbols.
func told3(t *testing.T, c api.Config, n int) (b, row []byte) {
	t.Helper()
	b, e := block.Make(c.Bytes, api.Block{Seq: 3, Mark: api.Last, Text: fill(1)})
	if e != api.OK {
		t.Fatal(e)
	}
	row, e = code.Encode(b, 0, n)
	if e != api.OK {
		t.Fatal(e)
	}
	return b, row
}

// asSyms are the symbols of row as a pile has them.
func asSyms(row []byte) []api.Sym {
	l := make([]api.Sym, len(row))
	for i, value := range row {
		l[i] = api.Sym{At: i, Value: int(value)}
	}
	return l
}

// hearNumbers are h's numbers, and what else is told beside it: nothing, if all of it is zero.
func hearNumbers(h api.Hear, accepted bool) []int {
	l := []int{h.Seq, h.Round, h.Pile.N, h.Pile.Passes, len(h.Pile.Syms), len(h.Bytes), 0, 0}
	if h.Done {
		l[6] = 1
	}
	if accepted {
		l[7] = 1
	}
	if slices.Equal(l, make([]int, len(l))) {
		return nil
	}
	return l
}

// checkTake asks about each list that is handed in beside each that is answered.
func checkTake(t *testing.T, c api.Config, h api.Hear, d api.Data) {
	t.Helper()
	take := func(pile []api.Sym, bytes, syms []byte) (api.Hear, bool, api.Errno) {
		h, d := h, d
		h.Pile.Syms, h.Bytes, d.Syms = pile, bytes, syms
		return hear.Take(c, h, d)
	}
	ofBytes := func(in [][]byte) (api.Hear, bool, api.Errno) { return take(h.Pile.Syms, in[0], in[1]) }
	ofPile := func(in [][]api.Sym) (api.Hear, bool, api.Errno) { return take(in[0], h.Bytes, d.Syms) }
	checkHeard(t, ofBytes, h.Bytes, d.Syms)
	checkHeard(t, ofPile, h.Pile.Syms)
	checkLists(t, "Check", number(func(l []api.Sym) (int, api.Errno) {
		h := h
		h.Pile.Syms = l
		return 0, hear.Check(c, h)
	}), h.Pile.Syms)
	checkLists(t, "Check", number(func(b []byte) (int, api.Errno) {
		h := h
		h.Bytes = b
		return 0, hear.Check(c, h)
	}), h.Bytes)
}

func checkHeard[In element](t *testing.T, take func([][]In) (api.Hear, bool, api.Errno), in ...[]In) {
	t.Helper()
	checkLists(t, "Take", func(in [][]In) ([][]byte, api.Errno) {
		next, _, e := take(in)
		return [][]byte{next.Bytes}, e
	}, in...)
	checkLists(t, "Take", func(in [][]In) ([][]api.Sym, api.Errno) {
		next, _, e := take(in)
		return [][]api.Sym{next.Pile.Syms}, e
	}, in...)
	checkLists(t, "Take", func(in [][]In) ([][]int, api.Errno) {
		next, accepted, e := take(in)
		return [][]int{hearNumbers(next, accepted)}, e
	}, in...)
}

func TestHearNew(t *testing.T) {
	for _, c := range hears() {
		for _, seq := range []int{math.MinInt, -1, 0, 5, api.MaxSeq, math.MaxInt} {
			checkLists(t, "New", func([][]byte) ([][]api.Sym, api.Errno) {
				h, e := hear.New(c, seq)
				return [][]api.Sym{h.Pile.Syms}, e
			})
			checkLists(t, "New", func([][]byte) ([][]int, api.Errno) {
				h, e := hear.New(c, seq)
				return [][]int{hearNumbers(h, false), asInts(h.Bytes)}, e
			})
		}
	}
}

func asInts(b []byte) []int {
	var l []int
	for _, x := range b {
		l = append(l, int(x))
	}
	return l
}

func TestHearTake(t *testing.T) { // piles without symbols, with some, with all but one, with all; data that are fresh, that are not, that tell the block, that may not be made
	for _, c := range hears()[:2] {
		n := 2*c.Bytes + 20
		most := n * c.Passes
		b, row := told3(t, c, most)
		for _, heard := range []int{0, 1, 9, most - 1, most} {
			for _, round := range []int{-1, 4, 5, 256} {
				h := api.Hear{Seq: 3, Round: round, Pile: api.Pile{N: n, Passes: c.Passes, Syms: asSyms(row[:heard])}}
				finished := h
				finished.Done, finished.Bytes = true, b
				odd := h
				odd.Bytes = b
				for _, from := range []int{-1, 0, 5, most - 1, most, 65535} {
					for _, count := range []int{0, 1, 40, 64, 65} {
						d := api.Data{Seq: 3, Round: 4, From: from, Syms: fill(count)}
						if at := max(0, from); at < most {
							copy(d.Syms, row[at:])
						}
						for _, h := range []api.Hear{h, finished, odd} {
							checkTake(t, c, h, d)
						}
					}
				}
			}
		}
	}
	for _, c := range hears()[2:] { // of Configs that are not right
		_, row := told3(t, hears()[0], 22)
		checkTake(t, c, api.Hear{Seq: 3, Round: 4, Pile: api.Pile{N: 22, Passes: 5, Syms: asSyms(row)}}, api.Data{Seq: 3, Round: 4, From: 22, Syms: row})
	}
}

func TestHearBehindTheLength(t *testing.T) { // symbols that would tell the block lie behind the lengths of the pile and of the data
	c := hears()[0]
	const n, most = 22, 110
	_, row := told3(t, c, most)
	l := asSyms(row)
	was, before := slices.Clone(l), slices.Clone(row)
	for _, heard := range []int{0, 1, 5, 10} {
		for count := 1; count < 5; count++ {
			next, accepted, e := hear.Take(c, api.Hear{Seq: 3, Round: 4, Pile: api.Pile{N: n, Passes: c.Passes, Syms: l[:heard]}}, api.Data{Seq: 3, Round: 4, From: heard, Syms: row[heard : heard+count]})
			if !slices.Equal(next.Pile.Syms, was[:heard+count]) || accepted || e != api.OK {
				t.Error(heard, count, next, accepted, e)
			}
			spoil(next.Pile.Syms)
			if !slices.Equal(l, was) || !slices.Equal(row, before) {
				t.Fatal("what was handed in is changed")
			}
		}
	}
}

func TestHearsApart(t *testing.T) { // all answers on the way to the block and behind it, kept: none is touched by a later one, nor by what is done with another one
	c := hears()[0]
	b, row := told3(t, c, 110)
	h, e := hear.New(c, 3)
	if e != api.OK {
		t.Fatal(e)
	}
	var piles [][]api.Sym
	var bytes [][]byte
	for from := 0; from < len(row); from += 2 {
		next, _, e := hear.Take(c, h, api.Data{Seq: 3, Round: 4, From: from, Syms: row[from : from+2]})
		again, _, f := hear.Take(c, h, api.Data{Seq: 3, Round: 4, From: 0, Syms: row[:1]})
		if e != api.OK || f != api.OK {
			t.Fatal(from, e, f)
		}
		piles = append(piles, next.Pile.Syms, again.Pile.Syms)
		bytes = append(bytes, next.Bytes, again.Bytes)
		h = next
	}
	if !h.Done || !slices.Equal(h.Bytes, b) {
		t.Fatal(h)
	}
	checkApart(t, piles)
	checkApart(t, bytes)
}

func checkApart[T element](t *testing.T, lists [][]T) {
	t.Helper()
	was := wholes(lists)
	for i := range lists {
		spoil(lists[i])
		for j := i + 1; j < len(lists); j++ {
			if !slices.Equal(whole(lists[j]), was[j]) {
				t.Fatal(i, j)
			}
		}
	}
}
