package pile_test

import (
	"math"
	"slices"
	"testing"

	"volute/api"
	"volute/code"
	"volute/pile"
	"volute/sched"
)

func ofSegment(t *testing.T, p api.Pile, segment int) []api.Sym {
	t.Helper()
	l, e := pile.Of(p, segment)
	if e != api.OK {
		t.Fatalf("Of(%v, %d): %d", p, segment, e)
	}
	return l
}

// byLayer7 goes through the pile's symbols, where the package goes through the segment's places.
func byLayer7(t *testing.T, p api.Pile, segment int) []api.Sym {
	t.Helper()
	var own []api.Sym
	for _, s := range p.Syms {
		its, index, e := sched.At(p.N, s.At)
		if e != api.OK {
			t.Fatal(p, e)
		}
		if its == segment {
			own = append(own, api.Sym{At: index, Value: s.Value})
		}
	}
	return own
}

func TestOfKnown(t *testing.T) { // P9.2: worked out by hand: a pass of five segments is 0, 4, 2, 1, 3
	p := api.Pile{N: 5, Passes: 3, Syms: []api.Sym{{At: 0, Value: 10}, {At: 3, Value: 13}, {At: 5, Value: 15}, {At: 6, Value: 16}, {At: 10, Value: 20}, {At: 11, Value: 21}, {At: 14, Value: 24}}}
	for segment, want := range [][]api.Sym{
		{{At: 0, Value: 10}, {At: 1, Value: 15}, {At: 2, Value: 20}},
		{{At: 0, Value: 13}},
		{},
		{{At: 2, Value: 24}},
		{{At: 1, Value: 16}, {At: 2, Value: 21}},
	} {
		if got := ofSegment(t, p, segment); !slices.Equal(got, want) {
			t.Errorf("%d: %v, not %v", segment, got, want)
		}
	}
	wide := api.Pile{N: 9, Passes: 2, Syms: []api.Sym{{At: 1, Value: 255}, {At: 8, Value: 0}, {At: 9, Value: 1}, {At: 10, Value: 2}}}
	for segment, want := range map[int][]api.Sym{0: {{At: 1, Value: 1}}, 1: {}, 7: {{At: 0, Value: 0}}, 8: {{At: 0, Value: 255}, {At: 1, Value: 2}}} {
		if got := ofSegment(t, wide, segment); !slices.Equal(got, want) {
			t.Errorf("%d: %v, not %v", segment, got, want)
		}
	}
}

// parted are piles of n segments and so many passes: without symbols, full, and with some of the places.
func parted(n, passes int) []api.Pile {
	all := count(n * passes)
	piles := []api.Pile{of(n, passes), of(n, passes, all...), of(n, passes, 0), of(n, passes, n*passes-1)}
	for step := 2; step < 6; step++ {
		var some, others []int
		for _, at := range all {
			if at*at%7%step == 0 {
				some = append(some, at)
			} else {
				others = append(others, at)
			}
		}
		piles = append(piles, of(n, passes, some...), of(n, passes, others...))
	}
	return piles
}

func TestOfByLayer7(t *testing.T) { // P9.2: each segment of piles of each number of segments
	for n := 1; n <= api.MaxSegs; n++ {
		for _, passes := range []int{1, 2, 3, 7, api.MaxPasses} {
			for _, p := range parted(n, passes) {
				told := 0
				for segment := range n {
					got := ofSegment(t, p, segment)
					if !slices.Equal(got, byLayer7(t, p, segment)) {
						t.Fatalf("Of(%v, %d) = %v", p, segment, got)
					}
					told += len(got)
				}
				if told != len(p.Syms) {
					t.Errorf("%v: %d symbols are told", p, told)
				}
			}
		}
	}
}

func TestOfRises(t *testing.T) { // P9.2: indices from 0 on, below Passes, rising, each at its place
	for _, c := range [][2]int{{1, 1}, {1, api.MaxPasses}, {5, 3}, {9, 4}, {api.MaxSegs, api.MaxPasses}} {
		for _, p := range parted(c[0], c[1]) {
			for segment := range p.N {
				last := -1
				for _, s := range ofSegment(t, p, segment) {
					at, e := sched.Place(p.N, segment, s.At)
					if s.At <= last || s.At >= p.Passes || e != api.OK || s.Value != valueAt(at) {
						t.Errorf("%v, %d: %v", p, segment, s)
					}
					last = s.At
				}
			}
		}
	}
}

func TestOfWhatIsPut(t *testing.T) { // P9.2: whatever the order in which a block's symbols come in, each segment has its own
	b := []byte("volute")
	n := code.Segs(len(b))
	row, e := code.Encode(b, 0, n*4)
	if e != api.OK {
		t.Fatal(e)
	}
	p, _ := pile.New(n, 4)
	for _, at := range shuffled(len(row), 5) {
		p = put(t, p, at, int(row[at]), true)
	}
	for segment := range n {
		var want []api.Sym
		for index := range 4 {
			at, _ := sched.Place(n, segment, index)
			want = append(want, api.Sym{At: index, Value: int(row[at])})
		}
		if got := ofSegment(t, p, segment); !slices.Equal(got, want) {
			t.Errorf("%d: %v, not %v", segment, got, want)
		}
	}
}

func TestOfWrong(t *testing.T) { // P9.2, R1, R4
	for n := 1; n <= api.MaxSegs; n++ {
		for _, p := range []api.Pile{of(n, 1), of(n, api.MaxPasses), full(n, 2)} {
			ofSegment(t, p, 0)
			ofSegment(t, p, n-1)
			for _, segment := range []int{-1, -2, -n, n, n + 1, n + 8, 2 * n, api.MaxSegs, 1 << 31, 1 << 32, 1<<32 + 1, -1 << 32, 1 << 62, math.MaxInt, math.MinInt, math.MinInt + 1} {
				if l, e := pile.Of(p, segment); len(l) != 0 || e != api.ErrArg {
					t.Errorf("Of(%v, %d) = %v, %d", p, segment, l, e)
				}
			}
		}
	}
}

func TestPilesAgain(t *testing.T) { // R3: an answer hangs neither on what was asked ahead of it nor on how often
	piles := append(parted(5, 3), parted(9, 2)...)
	ask := func(p api.Pile) [][]api.Sym {
		var told [][]api.Sym
		for segment := range p.N {
			told = append(told, ofSegment(t, p, segment))
		}
		for at := range p.N*p.Passes + 2 {
			next, _, e := pile.Put(p, at, 77)
			if e != api.OK {
				t.Fatal(p, at, e)
			}
			told = append(told, next.Syms)
		}
		return told
	}
	var ahead [][][]api.Sym
	for _, p := range piles {
		ahead = append(ahead, ask(p))
	}
	for i := len(piles) - 1; i >= 0; i-- {
		pile.Put(piles[i], -1, 0)
		pile.Of(piles[i], -1)
		pile.Check(api.Pile{})
		if !slices.EqualFunc(ask(piles[i]), ahead[i], slices.Equal) {
			t.Errorf("%v: another answer than ahead of it", piles[i])
		}
	}
}
