package spine_test

import (
	"math"
	"testing"

	"volute/api"
	"volute/mix"
	"volute/spine"
)

// wrong are numbers that are no nibbles, some of them nibbles in their lowest bits.
var wrong = []int{-1, -15, -16, 16, 17, 31, 32, 255, 256, 1 << 31, 1 << 32, 1<<32 + 5, 1 << 40, -1 << 32, math.MaxInt, math.MinInt, math.MinInt + 7}

// states are 0, the greatest, the first, each with one bit alone or all but one, each of ones alone from either end, and some without a plan: lowest bits of all kinds among them.
func states() []uint32 {
	list := []uint32{0, math.MaxUint32, 0x9e3779b9, 0x55555555, 0xaaaaaaaa}
	for k := range 32 {
		alone := uint32(1) << k
		list = append(list, alone, ^alone, alone-1, -alone)
	}
	for i := range uint32(200) {
		list = append(list, i, math.MaxUint32-i, i*2654435761, i*2654435761|15, i*2654435761&^15)
	}
	return list
}

func step(t *testing.T, s uint32, nibble int) uint32 {
	t.Helper()
	next, e := spine.Step(s, nibble)
	if e != api.OK {
		t.Fatalf("Step(%x, %d): %d", s, nibble, e)
	}
	return next
}

func TestBegin(t *testing.T) { // P5.1
	for range 2 {
		if got := spine.Begin(); got != 0x9e3779b9 {
			t.Errorf("%x", got)
		}
	}
}

func TestStepKnown(t *testing.T) { // P5.1: worked out apart from this project
	for _, c := range []struct {
		s      uint32
		nibble int
		next   uint32
	}{
		{0, 0, 0},
		{0, 1, 0x688990c0},
		{0, 15, 0xf9f63447},
		{15, 0, 0xf9f63447},
		{15, 15, 0},
		{5, 3, 0xa7e3d3bb},
		{math.MaxUint32, 0, 0x6768824a},
		{math.MaxUint32, 15, 0xd0c7d820},
		{0x80000000, 1, 0x24b6eb1},
		{0x9e3779b9, 0, 0x1fce552},
		{0x9e3779b9, 9, 0xc580324c},
		{0x9e3779b9, 15, 0x594f9e48},
	} {
		if got := step(t, c.s, c.nibble); got != c.next {
			t.Errorf("Step(%x, %d) = %x, not %x", c.s, c.nibble, got, c.next)
		}
		if nibble, is := spine.Nibble(c.s, c.next); nibble != c.nibble || !is {
			t.Errorf("Nibble(%x, %x) = %d, %t, not %d", c.s, c.next, nibble, is, c.nibble)
		}
	}
}

func TestStep(t *testing.T) { // P5.1
	for _, s := range states() {
		for nibble := range 16 {
			if got := step(t, s, nibble); got != mix.Mix(s^uint32(nibble)) {
				t.Errorf("Step(%x, %d) = %x", s, nibble, got)
			}
		}
	}
}

func TestStepWrong(t *testing.T) { // P5.1, R4
	for _, s := range states() {
		for _, nibble := range wrong {
			if next, e := spine.Step(s, nibble); next != 0 || e != api.ErrArg {
				t.Errorf("Step(%x, %d) = %x, %d", s, nibble, next, e)
			}
		}
	}
}

func TestUnlikeNibbles(t *testing.T) { // P5.2
	for _, s := range states() {
		seen := map[uint32]int{}
		for nibble := range 16 {
			next := step(t, s, nibble)
			if other, is := seen[next]; is {
				t.Errorf("%x: %d and %d lead to %x", s, other, nibble, next)
			}
			seen[next] = nibble
		}
	}
}

func TestNibbleOfStep(t *testing.T) { // P5.1
	for _, s := range states() {
		for nibble := range 16 {
			if got, is := spine.Nibble(s, step(t, s, nibble)); got != nibble || !is {
				t.Errorf("of %x, %d: %d, %t", s, nibble, got, is)
			}
		}
	}
}

func TestNibbleNone(t *testing.T) { // P5.1, R4: what was turned in s is no nibble, however few of its bits are too high
	for _, s := range states() {
		for high := 4; high < 32; high++ {
			for low := range uint32(16) {
				next := mix.Mix(s ^ 1<<high ^ low)
				if got, is := spine.Nibble(s, next); got != 0 || is {
					t.Errorf("Nibble(%x, %x) = %d, %t", s, next, got, is)
				}
			}
		}
	}
}

// search is Nibble by trying all of them, not by turning the mixer back as the package does it.
func search(t *testing.T, s, next uint32) (int, bool) {
	t.Helper()
	for nibble := range 16 {
		if step(t, s, nibble) == next {
			return nibble, true
		}
	}
	return 0, false
}

func TestNibbleBySearch(t *testing.T) { // P5.1: any two states, most of them with no nibble between
	list := states()
	for i, s := range list {
		for j := i % 7; j < len(list); j += 7 {
			next := list[j]
			nibble, is := spine.Nibble(s, next)
			if want, there := search(t, s, next); nibble != want || is != there {
				t.Errorf("Nibble(%x, %x) = %d, %t, not %d, %t", s, next, nibble, is, want, there)
			}
		}
	}
}

func TestNibbleToNought(t *testing.T) { // P5.1: 0 is the Mix of 0 alone, so that the state itself is what must be turned
	for s := range uint32(64) {
		want, there := 0, false
		if s < 16 {
			want, there = int(s), true
		}
		if got, is := spine.Nibble(s, 0); got != want || is != there {
			t.Errorf("Nibble(%x, 0) = %d, %t", s, got, is)
		}
	}
}

func TestStepsAgain(t *testing.T) { // R3: an answer hangs neither on what was asked ahead of it nor on how often
	list := states()
	ahead := make([]uint32, len(list))
	for i, s := range list {
		ahead[i] = step(t, s, i%16)
	}
	for i := len(list) - 1; i >= 0; i-- {
		if step(t, list[i], i%16) != ahead[i] || step(t, list[i], i%16) != ahead[i] {
			t.Errorf("%x, %d: another answer than ahead of it", list[i], i%16)
		}
		if nibble, is := spine.Nibble(list[i], ahead[i]); nibble != i%16 || !is {
			t.Errorf("%x, %x: %d, %t", list[i], ahead[i], nibble, is)
		}
	}
}
