package cost_test

import (
	"testing"

	"volute/api"
	"volute/cost"
	"volute/spine"
)

func TestOwnCostNothing(t *testing.T) { // P10.2: a state's own symbols, lists of each length
	for _, s := range states() {
		for _, n := range lengths() {
			for _, step := range []int{0, 1, 16, 255} {
				wantCost(t, s, turned(t, s, n, 3*n, step, 0), 0)
			}
		}
	}
}

func TestEachBitTurned(t *testing.T) { // P10.2: eight for each symbol, and no more than that
	for _, s := range states() {
		for _, n := range lengths() {
			for _, step := range []int{0, 1, 16, 255} {
				wantCost(t, s, turned(t, s, n, 3*n, step, 255), eachBit*n)
			}
		}
	}
}

func TestOneBitTurned(t *testing.T) { // P10.2: not 0, if one symbol alone is not the state's own, whichever it is and whichever bit
	for _, s := range states() {
		for _, n := range []int{1, 2, 5, api.MaxPasses} {
			l := turned(t, s, n, 1, 15, 0)
			for i := range l {
				for k := range 8 {
					l[i].Value ^= 1 << k
					wantCost(t, s, l, 1)
					l[i].Value ^= 1 << k
				}
			}
		}
	}
}

func TestBounds(t *testing.T) { // P10.2: one state's symbols, asked of others
	for _, s := range states() {
		for _, other := range states() {
			for _, n := range lengths() {
				l := turned(t, s, n, 0, 1, 0)
				all := true
				for _, x := range l {
					all = all && own(t, other, x.At) == x.Value
				}
				got, e := cost.Of(other, l)
				if got < 0 || got > eachBit*n || (got == 0) != all || e != api.OK {
					t.Errorf("Of(%x, %d symbols of %x) = %d, %d", other, n, s, got, e)
				}
			}
		}
	}
}

func TestUnlikeStatesCost(t *testing.T) { // P10.2 and P6.3: the first four symbols cost nothing of their own state alone
	for _, s := range states() {
		l := turned(t, s, 4, 0, 1, 0)
		for _, other := range states() {
			if got, e := cost.Of(other, l); (got == 0) != (other == s) || e != api.OK {
				t.Errorf("Of(%x, four symbols of %x) = %d, %d", other, s, got, e)
			}
		}
	}
}

func TestCostOfSteps(t *testing.T) { // P10.2: of the states behind a nibble the one that is meant costs nothing, each other one something
	for nibble := range 16 {
		s, e := spine.Step(spine.Begin(), nibble)
		if e != api.OK {
			t.Fatal(e)
		}
		l := turned(t, s, 4, 0, 1, 0)
		for other := range 16 {
			o, _ := spine.Step(spine.Begin(), other)
			if got, e := cost.Of(o, l); (got == 0) != (other == nibble) || e != api.OK {
				t.Errorf("%d, not %d: %d, %d", other, nibble, got, e)
			}
		}
	}
}
