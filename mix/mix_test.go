package mix_test

import (
	"math"
	"sync"
	"testing"

	"volute/mix"
)

// known are numbers and their Mix, worked out apart from this project.
var known = []struct{ x, mixed uint32 }{
	{0, 0}, // example 1
	{1, 0x688990c0},
	{2, 0xd1132181},
	{3, 0x53f1e9dd},
	{0x7fff, 0xfea74dd},
	{0x8000, 0xf2d67fb9},
	{0xffff, 0x33cad8ba},
	{0x10000, 0xdcafae10},
	{0x12345678, 0xf5e71c96},
	{0x7fffffff, 0x8d29ffb8},
	{0x80000000, 0xcc4b4124},
	{0x80000001, 0x24b6eb1},
	{0xdeadbeef, 0xe628c683},
	{0x9e3779b9, 0x1fce552},
	{0x7feb352d, 0xd9fa482e},
	{0x846ca68b, 0xee8c28e2},
	{0xfffffffe, 0x97a1065a},
	{math.MaxUint32, 0x6768824a},
}

// edges are 0, 1, the greatest number, each with one bit alone or all but one, each of ones alone from either end, and some without a plan.
func edges() []uint32 {
	list := []uint32{0, 1, math.MaxUint32, 0x55555555, 0xaaaaaaaa, 0x0000ffff, 0xffff0000}
	for k := range 32 {
		alone := uint32(1) << k
		list = append(list, alone, ^alone, alone-1, -alone)
	}
	for i := range uint32(1000) {
		list = append(list, i, math.MaxUint32-i, i*2654435761)
	}
	return list
}

// stages are a number on its way through Mix, behind each step of the chapter's text: worked out with room for whole products, so that nothing wraps but where the text says modulo.
func stages(x uint32) [5]uint64 {
	const bound = 1 << 32
	var s [5]uint64
	s[0] = uint64(x) ^ uint64(x)/(1<<16)
	s[1] = s[0] * 0x7feb352d % bound
	s[2] = s[1] ^ s[1]/(1<<15)
	s[3] = s[2] * 0x846ca68b % bound
	s[4] = s[3] ^ s[3]/(1<<16)
	return s
}

func byHand(x uint32) uint32 { return uint32(stages(x)[4]) }

func TestKnown(t *testing.T) { // P4.1
	for _, c := range known {
		if got := mix.Mix(c.x); got != c.mixed {
			t.Errorf("Mix(%x) = %x, not %x", c.x, got, c.mixed)
		}
		if got := mix.Back(c.mixed); got != c.x {
			t.Errorf("Back(%x) = %x, not %x", c.mixed, got, c.x)
		}
	}
}

func TestStepByStep(t *testing.T) { // P4.1
	for _, x := range edges() {
		if got := mix.Mix(x); got != byHand(x) {
			t.Errorf("Mix(%x) = %x; the steps: %x", x, got, stages(x))
		}
	}
}

func TestBackOfMixed(t *testing.T) { // P4.1
	for _, x := range edges() {
		if got := mix.Back(mix.Mix(x)); got != x {
			t.Errorf("Back(Mix(%x)) = %x", x, got)
		}
	}
}

func TestMixOfBack(t *testing.T) { // P4.1
	for _, x := range edges() {
		before := mix.Back(x)
		if mix.Mix(before) != x || byHand(before) != x {
			t.Errorf("Back(%x) = %x, whose Mix is %x, by hand %x", x, before, mix.Mix(before), byHand(before))
		}
	}
}

func TestNeighbours(t *testing.T) { // P4.2: numbers that differ in one bit, mixed and turned back
	for _, x := range edges() {
		for k := range 32 {
			y := x ^ 1<<k
			if mix.Mix(x) == mix.Mix(y) || mix.Back(x) == mix.Back(y) {
				t.Errorf("%x and %x: Mix %x and %x, Back %x and %x", x, y, mix.Mix(x), mix.Mix(y), mix.Back(x), mix.Back(y))
			}
			if mix.Mix(y) != byHand(y) || mix.Back(mix.Mix(y)) != y || mix.Mix(mix.Back(y)) != y {
				t.Errorf("%x: Mix %x, Back %x", y, mix.Mix(y), mix.Back(y))
			}
		}
	}
}

func TestSameAgain(t *testing.T) { // R3: an answer hangs neither on what was asked ahead of it nor on how often
	list := edges()
	mixed, back := make([]uint32, len(list)), make([]uint32, len(list))
	for i, x := range list {
		mixed[i], back[i] = mix.Mix(x), mix.Back(x)
	}
	for i := len(list) - 1; i >= 0; i-- {
		if x := list[i]; mix.Mix(x) != mixed[i] || mix.Back(x) != back[i] || mix.Mix(x) != mixed[i] {
			t.Errorf("%x: another answer than ahead of it", x)
		}
	}
}

// firstWrong is the first number from low on, of 2^28, whose Mix is not by the text, or not turned back by Back.
func firstWrong(low uint32) (uint32, bool) {
	for i := range uint32(1 << 28) {
		x := low + i
		if m := mix.Mix(x); m != byHand(x) || mix.Back(m) != x {
			return x, true
		}
	}
	return 0, false
}

func TestAllNumbers(t *testing.T) { // P4.1, P4.2, R1: if each number comes back from its Mix, no two have one Mix; and since there are as many of these as numbers, each number is one
	if testing.Short() {
		t.Skip("goes through 2^32 numbers")
	}
	var pieces sync.WaitGroup
	for piece := range uint32(16) {
		pieces.Go(func() {
			if x, is := firstWrong(piece << 28); is {
				t.Errorf("%x: Mix %x, by hand %x, back %x", x, mix.Mix(x), byHand(x), mix.Back(mix.Mix(x)))
			}
		})
	}
	pieces.Wait()
}
