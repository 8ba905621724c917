package rules

import (
	"math"
	"slices"
	"testing"

	"volute/api"
	"volute/pile"
)

// heard are symbols at each place below n.
func heard(n int) []api.Sym {
	l := make([]api.Sym, n)
	for i := range l {
		l[i] = api.Sym{At: i, Value: i % 256}
	}
	return l
}

func TestPile(t *testing.T) {
	lists := [][]api.Sym{
		{}, {{At: 0, Value: 9}}, {{At: 3, Value: 9}}, {{At: 9, Value: 255}}, {{At: 0, Value: 1}, {At: 4, Value: 2}, {At: 9, Value: 3}},
		heard(9), heard(10), heard(10)[1:], heard(11), {{At: 1}, {At: 1}}, {{At: -1}}, {{At: 2, Value: 256}},
	}
	for _, l := range lists {
		for _, at := range []int{-1, 0, 1, 4, 8, 9, 10, math.MaxInt} {
			for _, value := range []int{-1, 0, 255, 256} {
				put := func(l []api.Sym) ([]api.Sym, api.Errno) {
					next, _, e := pile.Put(api.Pile{N: 5, Passes: 2, Syms: l}, at, value)
					return next.Syms, e
				}
				checkLists(t, "Put", one(put), l)
			}
		}
		for segment := -1; segment <= 5; segment++ {
			of := func(l []api.Sym) ([]api.Sym, api.Errno) { return pile.Of(api.Pile{N: 5, Passes: 2, Syms: l}, segment) }
			checkLists(t, "Of", one(of), l)
		}
		check := func(l []api.Sym) (int, api.Errno) { return 0, pile.Check(api.Pile{N: 5, Passes: 2, Syms: l}) }
		checkLists(t, "Check", number(check), l)
	}
}

func TestNewPile(t *testing.T) {
	for _, n := range []int{-1, 0, 1, api.MaxSegs, api.MaxSegs + 1} {
		for _, passes := range []int{-1, 0, 1, api.MaxPasses, api.MaxPasses + 1} {
			begin := func([][]byte) ([][]api.Sym, api.Errno) {
				p, e := pile.New(n, passes)
				return [][]api.Sym{p.Syms}, e
			}
			checkLists(t, "New", begin)
		}
	}
}

func TestPileBehindTheLength(t *testing.T) { // a longer pile in memory: the symbols within the length alone are the pile
	const end = 10
	l := heard(end)
	for n := range end {
		p := api.Pile{N: 5, Passes: 2, Syms: l[:n]}
		for at := range end {
			next, fresh, e := pile.Put(p, at, 99)
			want := heard(n)
			if at >= n {
				want = append(want, api.Sym{At: at, Value: 99})
			}
			if !slices.Equal(next.Syms, want) || fresh != (at >= n) || e != api.OK {
				t.Error(n, at, next, fresh, e)
			}
			spoil(next.Syms)
		}
		told := 0
		for segment := range 5 {
			own, e := pile.Of(p, segment)
			if e != api.OK {
				t.Error(n, segment, e)
			}
			told += len(own)
			spoil(own)
		}
		if told != n || !slices.Equal(l, heard(end)) {
			t.Error(n, told, l)
		}
	}
}
