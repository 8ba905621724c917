package spine_test

import (
	"slices"
	"testing"

	"volute/api"
	"volute/mix"
	"volute/spine"
)

const most = api.MaxSegs

// row is one of n nibbles, other ones for each seed.
func row(n, seed int) []int {
	l := make([]int, n)
	for i := range l {
		l[i] = (i*(2*seed+1) + seed*seed>>3 + i*i>>2) % 16
	}
	return l
}

func statesOf(t *testing.T, l []int) []uint32 {
	t.Helper()
	got, e := spine.States(l)
	if e != api.OK || len(got) != len(l) {
		t.Fatal(l, got, e)
	}
	return got
}

// byHand is States as the opening of the chapter tells it: each state mixed from the one ahead.
func byHand(l []int) []uint32 {
	out := []uint32{}
	s := uint32(0x9e3779b9)
	for _, nibble := range l {
		s = mix.Mix(s ^ uint32(nibble))
		out = append(out, s)
	}
	return out
}

func TestStatesKnown(t *testing.T) { // P5.1: worked out apart from this project
	for _, c := range []struct {
		l    []int
		want []uint32
	}{
		{nil, nil}, // example 1
		{[]int{}, nil},
		{[]int{0}, []uint32{0x1fce552}},
		{[]int{15}, []uint32{0x594f9e48}},
		{[]int{9, 9, 9}, []uint32{0xc580324c, 0x9000f21f, 0xc3791626}},
		{[]int{0, 15, 7, 7, 1}, []uint32{0x1fce552, 0xb8e4fc2, 0x5ed509d3, 0x4370067, 0x2d6a8464}},
	} {
		if got := statesOf(t, c.l); !slices.Equal(got, c.want) {
			t.Errorf("%d: %x, not %x", c.l, got, c.want)
		}
	}
	for _, c := range []struct {
		l    []int
		last uint32
	}{
		{slices.Repeat([]int{0}, most), 0xd4469ff},
		{slices.Repeat([]int{15}, most), 0xcdd6bbbb},
	} {
		if got := statesOf(t, c.l); got[most-1] != c.last {
			t.Errorf("%d: the last is %x, not %x", c.l, got[most-1], c.last)
		}
	}
}

func TestStates(t *testing.T) { // P5.1: all lengths that may be
	for n := range most + 1 {
		for seed := range 20 {
			l := row(n, seed)
			if got := statesOf(t, l); !slices.Equal(got, byHand(l)) {
				t.Errorf("%d: %x", l, got)
			}
		}
	}
}

func TestStatesByStep(t *testing.T) { // P5.1: from Begin on, one Step behind the other; and each nibble told again by the two states beside it
	for seed := range 50 {
		l := row(most, seed)
		s := spine.Begin()
		for i, next := range statesOf(t, l) {
			if step(t, s, l[i]) != next {
				t.Errorf("%d: %x at %d", l, next, i)
			}
			if nibble, is := spine.Nibble(s, next); nibble != l[i] || !is {
				t.Errorf("%d: %d, %t at %d", l, nibble, is, i)
			}
			s = next
		}
	}
}

func TestStatesTooMany(t *testing.T) { // P5.1, R4
	for _, n := range []int{most + 1, most + 2, 2 * most, 256, 1 << 16} {
		if got, e := spine.States(make([]int, n)); len(got) != 0 || e != api.ErrLen {
			t.Error(n, got, e)
		}
	}
}

func TestStatesWrong(t *testing.T) { // P5.1, R4: a number that is no nibble, at each place of rows of some lengths
	for _, n := range []int{1, 2, 5, most - 1, most} {
		for at := range n {
			for _, x := range wrong {
				l := row(n, at)
				l[at] = x
				if got, e := spine.States(l); len(got) != 0 || e != api.ErrArg {
					t.Error(n, at, x, got, e)
				}
			}
		}
	}
}

func TestStatesErrorsInOrder(t *testing.T) { // R4: too many ahead of what is no nibble, wherever that stands
	for _, at := range []int{0, 1, most - 1, most} {
		for _, x := range wrong {
			l := make([]int, most+1)
			l[at] = x
			if got, e := spine.States(l); len(got) != 0 || e != api.ErrLen {
				t.Error(at, x, got, e)
			}
		}
	}
}

func TestUnlikeShortRows(t *testing.T) { // P5.2: all rows of three nibbles
	seen := map[[3]uint32]int{}
	for i := range 1 << 12 {
		key := [3]uint32(statesOf(t, []int{i >> 8, i >> 4 & 15, i & 15}))
		if other, is := seen[key]; is {
			t.Errorf("%03x and %03x have the states %x", other, i, key)
		}
		seen[key] = i
	}
}

func TestUnlikeLongRows(t *testing.T) { // P5.2: rows that differ in one nibble have the same states ahead of it, and unlike ones there
	l := row(most, 3)
	want := statesOf(t, l)
	for at := range l {
		for turned := 1; turned < 16; turned++ {
			other := slices.Clone(l)
			other[at] ^= turned
			got := statesOf(t, other)
			if !slices.Equal(got[:at], want[:at]) || got[at] == want[at] {
				t.Errorf("%d turned at %d: %x, and of the first row %x", turned, at, got, want)
			}
		}
	}
}

func TestStatesOfBeginnings(t *testing.T) { // P5.1: what comes behind a nibble does not touch the state behind it
	l := row(most, 5)
	want := statesOf(t, l)
	for n := range l {
		if got := statesOf(t, l[:n:n]); !slices.Equal(got, want[:n]) {
			t.Errorf("%d: %x", n, got)
		}
	}
}
