package rules

import (
	"math"
	"slices"
	"testing"

	"volute/api"
	"volute/join"
)

// asNumbers are bools as a list: without an element, if none of them holds, so that beside an error nothing else is let through.
func asNumbers(flags ...bool) []int {
	if !slices.Contains(flags, true) {
		return nil
	}
	l := make([]int, len(flags))
	for i, f := range flags {
		if f {
			l[i] = 1
		}
	}
	return l
}

// checkJoin asks about the texts in both orders, so that each is spoilt ahead of the other one, and about what is told beside them.
func checkJoin(t *testing.T, j api.Join, b api.Block) {
	t.Helper()
	with := func(in [][]byte) (api.Join, api.Block) {
		j, b := j, b
		j.Text, b.Text = in[0], in[1]
		return j, b
	}
	forward := func(in [][]byte) ([][]byte, api.Errno) {
		next, msg, _, e := join.Take(with(in))
		return [][]byte{next.Text, msg}, e
	}
	backward := func(in [][]byte) ([][]byte, api.Errno) {
		next, msg, _, e := join.Take(with(in))
		return [][]byte{msg, next.Text}, e
	}
	flags := func(in [][]byte) ([][]int, api.Errno) {
		next, _, done, e := join.Take(with(in))
		return [][]int{asNumbers(next.Open, done)}, e
	}
	ends := func(in [][]byte) ([][]int, api.Errno) {
		return [][]int{asNumbers(join.Ends(with(in)))}, api.OK
	}
	checkLists(t, "Take", forward, j.Text, b.Text)
	checkLists(t, "Take", backward, j.Text, b.Text)
	checkLists(t, "Take", flags, j.Text, b.Text)
	checkLists(t, "Ends", ends, j.Text, b.Text)
	next, msg, _, _ := join.Take(j, b)
	checkApart(t, [][]byte{next.Text, msg})
}

func TestJoin(t *testing.T) { // right ones and wrong ones, what is too long together too
	for _, held := range []int{0, 1, 16, api.MaxBytes - 16, api.MaxBytes - 1, api.MaxBytes, api.MaxBytes + 1} {
		for _, n := range []int{0, 1, 15, 16, 17} {
			for _, mark := range []int{math.MinInt, -1, 0, 1, 2, 3, 4, math.MaxInt} {
				for _, isOpen := range []bool{false, true} {
					checkJoin(t, api.Join{Open: isOpen, Text: fill(held)}, api.Block{Seq: 5, Mark: mark, Text: fill(n)})
				}
			}
		}
	}
}

func TestJoinOneMemory(t *testing.T) { // the block's Text lies behind that of the Join in one memory, or it is that of the Join: nothing is written there
	for held := range 40 {
		for n := range api.MaxBlock + 1 {
			for mark := range 4 {
				for _, from := range []int{0, held / 2, held, held + 3} {
					memory := fill(100)
					was := slices.Clone(memory)
					next, msg, _, e := join.Take(api.Join{Open: true, Text: memory[:held]}, api.Block{Mark: mark, Text: memory[from : from+n]})
					want := was[from : from+n]
					if mark&api.First == 0 {
						want = slices.Concat(was[:held], want)
					}
					if got := slices.Concat(next.Text, msg); !slices.Equal(got, want) || e != api.OK {
						t.Fatal(held, n, mark, got, e)
					}
					spoil(next.Text)
					spoil(msg)
					if !slices.Equal(memory, was) {
						t.Fatal(held, n, mark, "what was handed in is changed")
					}
				}
			}
		}
	}
}

func TestJoinEmptyOnes(t *testing.T) { // a Text without bytes, but with room behind it, is not handed out, where nothing is to be told
	for mark := range 4 {
		for _, isOpen := range []bool{false, true} {
			j, b := api.Join{Open: isOpen, Text: fill(50)[:0]}, api.Block{Mark: mark, Text: fill(50)[:0]}
			next, msg, _, e := join.Take(j, b)
			if e != api.OK || len(next.Text)+len(msg) != 0 {
				t.Fatal(mark, isOpen, next, msg, e)
			}
			checkApart(t, [][]byte{next.Text, msg, j.Text, b.Text})
		}
	}
}

func TestJoinsApart(t *testing.T) { // all answers on the way to a message, kept: none is touched by a later one, nor by what is done with another one
	var lists [][]byte
	j := api.Join{}
	take := func(mark int) api.Join {
		b := api.Block{Mark: mark, Text: fill(5)}
		next, msg, _, e := join.Take(j, b)
		if e != api.OK {
			t.Fatal(mark, e)
		}
		lists = append(lists, b.Text, next.Text, msg)
		return next
	}
	for i := range 40 {
		mark := 0
		if i == 0 {
			mark = api.First
		}
		take(api.First)
		take(api.First | api.Last)
		take(api.Last)
		take(0)
		j = take(mark)
	}
	if !j.Open || len(j.Text) != 200 {
		t.Fatal(j)
	}
	checkApart(t, lists)
}
