package rules

import (
	"math"
	"slices"
	"testing"

	"volute/api"
	"volute/cost"
)

func TestCost(t *testing.T) {
	const most = api.MaxPasses
	lists := [][]api.Sym{
		{}, {{At: 0, Value: 9}}, {{At: 255, Value: 255}}, {{At: 4}, {At: 4}, {At: 1, Value: 2}}, heard(4), heard(most - 1), heard(most), heard(most + 1), heard(300),
		{{At: -1}}, {{At: 256}}, {{Value: -1}}, {{Value: 256}}, {{At: 1, Value: 255}, {At: math.MaxInt}}, {{At: 1, Value: 255}, {Value: math.MinInt}},
		append(heard(most), api.Sym{At: -1, Value: 256}),
	}
	for _, s := range []uint32{0, 1, 0x04030201, math.MaxUint32} {
		of := func(l []api.Sym) (int, api.Errno) { return cost.Of(s, l) }
		for _, l := range lists {
			checkLists(t, "Of", number(of), l)
		}
	}
}

func TestCostBehindTheLength(t *testing.T) { // wrong symbols behind the length, and more of them than may be
	l := append(heard(api.MaxPasses), slices.Repeat([]api.Sym{{At: -1, Value: 256}}, api.MaxPasses)...)
	was := slices.Clone(l)
	for n := range l {
		got, e := cost.Of(7, l[:n])
		want, f := cost.Of(7, slices.Clone(was[:n]))
		if got != want || e != f || (e == api.OK) != (n <= api.MaxPasses) || !slices.Equal(l, was) {
			t.Error(n, got, e, want, f, l)
		}
	}
}
