package cost_test

import (
	"math"
	"slices"
	"testing"

	"volute/api"
	"volute/cost"
)

// noByte are numbers that are neither an index nor a value, some of them one in their lowest bits.
var noByte = []int{
	-1, -2, -16, -255, -256, api.MaxIndex + 1, api.MaxIndex + 2, 511, 512, 1 << 16, 1 << 31, 1<<31 + 9, 1 << 32, 1<<32 + 1, -1 << 32, 5 - 1<<32,
	1 << 62, math.MaxInt, math.MaxInt - 1, math.MinInt, math.MinInt + 1,
}

// noSymbol are symbols of which the place, the value or both are wrong.
func noSymbol() []api.Sym {
	var list []api.Sym
	for _, x := range noByte {
		list = append(list, api.Sym{At: x}, api.Sym{At: x, Value: 255}, api.Sym{At: x, Value: x})
		list = append(list, api.Sym{Value: x}, api.Sym{At: 4, Value: x}, api.Sym{At: api.MaxIndex, Value: x})
	}
	return list
}

func TestOfEdges(t *testing.T) { // P10.1: the least and the greatest place and value that may be
	for _, s := range states() {
		for _, at := range []int{0, api.MaxIndex} {
			for _, value := range []int{0, 255} {
				for _, n := range []int{1, 2, api.MaxPasses} {
					got, e := cost.Of(s, slices.Repeat([]api.Sym{{At: at, Value: value}}, n))
					if got < 0 || got > eachBit*n || got%n != 0 || e != api.OK {
						t.Errorf("Of(%x, %d times %d of the index %d) = %d, %d", s, n, value, at, got, e)
					}
				}
			}
		}
	}
}

func TestOfWrong(t *testing.T) { // P10.1, R1, R4: first, last and in between, behind symbols that cost nothing and such that cost much
	for _, s := range []uint32{0, 1, 0x04030201, 0xdeadbeef, math.MaxUint32} {
		for _, n := range []int{1, 2, 3, api.MaxPasses} {
			for _, mask := range []int{0, 255} {
				l := turned(t, s, n, 240, 5, mask)
				for _, wrong := range noSymbol() {
					for at := range l {
						other := slices.Clone(l)
						other[at] = wrong
						wantError(t, s, other, api.ErrArg)
					}
				}
			}
		}
	}
}

func TestOfAllWrong(t *testing.T) { // P10.1, R1, R4
	for _, s := range states() {
		for _, wrong := range noSymbol() {
			wantError(t, s, slices.Repeat([]api.Sym{wrong}, 2), api.ErrArg)
			wantError(t, s, slices.Repeat([]api.Sym{wrong}, api.MaxPasses), api.ErrArg)
		}
	}
}

func TestOfAgain(t *testing.T) { // R3: an answer hangs neither on what was asked ahead of it nor on how often
	list := states()
	lists := make([][]api.Sym, len(list))
	ahead := make([]int, len(list))
	for i, s := range list {
		lists[i] = turned(t, list[0], i%(api.MaxPasses+1), i, 7, i)
		got, e := cost.Of(s, lists[i])
		if e != api.OK {
			t.Fatal(s, lists[i], e)
		}
		ahead[i] = got
	}
	for i := len(list) - 1; i >= 0; i-- {
		wantError(t, list[i], []api.Sym{{At: 1, Value: 200}, {At: -1}}, api.ErrArg)
		wantError(t, list[i], make([]api.Sym, api.MaxPasses+1), api.ErrLen)
		wantCost(t, list[i], lists[i], ahead[i])
		wantCost(t, list[i], lists[i], ahead[i])
	}
}
