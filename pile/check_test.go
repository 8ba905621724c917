package pile_test

import (
	"math"
	"slices"
	"testing"

	"volute/api"
	"volute/pile"
)

// noCount are numbers that are neither of segments nor of passes, some of them one that may be in their lowest bits, some whose product with one that may be wraps.
var noCount = []int{
	0, -1, -2, -16, -64, api.MaxSegs + 1, api.MaxSegs + 2, 128, 256, 1 << 31, 1 << 32, 1<<32 + 1, 1<<32 + 5, -1 << 32, 5 - 1<<32,
	1 << 59, 1 << 60, 1<<60 + 1, 1 << 62, 1<<62 + 1, -1 << 60, math.MaxInt, math.MaxInt - 1, math.MinInt, math.MinInt + 1, math.MinInt + 5,
}

// noValue are numbers that are no value of a symbol.
var noValue = []int{-1, -2, -255, -256, 256, 257, 511, 512, 1 << 16, 1<<31 + 9, 1 << 32, 1<<32 + 1, -1 << 32, 1 << 62, math.MaxInt, math.MinInt, math.MinInt + 1}

// valueAt is a value for each place, another one than its neighbours have; one that may be for those that may not be, too.
func valueAt(at int) int { return (at*151 + 7) & 255 }

// syms are symbols at these places.
func syms(places ...int) []api.Sym {
	var l []api.Sym
	for _, at := range places {
		l = append(l, api.Sym{At: at, Value: valueAt(at)})
	}
	return l
}

// of is a pile with symbols at these places, made by hand.
func of(n, passes int, places ...int) api.Pile {
	return api.Pile{N: n, Passes: passes, Syms: syms(places...)}
}

// count is 0, 1, .. below n.
func count(n int) []int {
	l := make([]int, n)
	for i := range l {
		l[i] = i
	}
	return l
}

// full is a pile with a symbol at each place.
func full(n, passes int) api.Pile { return of(n, passes, count(n*passes)...) }

func equal(p, q api.Pile) bool {
	return p.N == q.N && p.Passes == q.Passes && slices.Equal(p.Syms, q.Syms)
}

func isZero(p api.Pile) bool { return equal(p, api.Pile{}) }

func wantRight(t *testing.T, p api.Pile) {
	t.Helper()
	if e := pile.Check(p); e != api.OK {
		t.Errorf("Check(%v): %d", p, e)
	}
}

// wantWrong holds each call that takes a pile to ErrArg, whatever else it is given.
func wantWrong(t *testing.T, p api.Pile) {
	t.Helper()
	if e := pile.Check(p); e != api.ErrArg {
		t.Errorf("Check(%v): %d", p, e)
	}
	for _, at := range []int{0, 1, 3, p.N, -1, math.MaxInt, math.MinInt} {
		for _, value := range []int{0, 255, 256, -1} {
			if next, fresh, e := pile.Put(p, at, value); !isZero(next) || fresh || e != api.ErrArg {
				t.Errorf("Put(%v, %d, %d) = %v, %t, %d", p, at, value, next, fresh, e)
			}
		}
	}
	for _, segment := range []int{0, 1, p.N - 1, p.N, -1, math.MaxInt, math.MinInt} {
		if l, e := pile.Of(p, segment); len(l) != 0 || e != api.ErrArg {
			t.Errorf("Of(%v, %d) = %v, %d", p, segment, l, e)
		}
	}
}

func TestNew(t *testing.T) { // P9.1: each pair of numbers that may be
	for n := 1; n <= api.MaxSegs; n++ {
		for passes := 1; passes <= api.MaxPasses; passes++ {
			p, e := pile.New(n, passes)
			if p.N != n || p.Passes != passes || len(p.Syms) != 0 || e != api.OK {
				t.Errorf("New(%d, %d) = %v, %d", n, passes, p, e)
			}
			wantRight(t, p)
		}
	}
}

func TestNewWrong(t *testing.T) { // P9.1, R1, R4, R5: each of the two wrong alone, and both
	none := func(n, passes int) {
		t.Helper()
		if p, e := pile.New(n, passes); !isZero(p) || e != api.ErrArg {
			t.Errorf("New(%d, %d) = %v, %d", n, passes, p, e)
		}
	}
	noPasses := append([]int{api.MaxPasses + 1, api.MaxPasses + 2, 32, api.MaxSegs - 1, api.MaxSegs}, noCount...)
	for _, passes := range noPasses {
		for n := 1; n <= api.MaxSegs; n++ {
			none(n, passes)
		}
		for _, n := range noCount {
			none(n, passes)
		}
	}
	for _, n := range noCount {
		for passes := 1; passes <= api.MaxPasses; passes++ {
			none(n, passes)
		}
	}
}

func TestNewIsNew(t *testing.T) { // R2, R3: what is laid on one pile stands on no other one
	first, _ := pile.New(5, 2)
	second, _ := pile.New(5, 2)
	first.Syms = append(first.Syms, syms(1)...)
	second.Syms = append(second.Syms, syms(2, 3)...)
	third, _ := pile.New(5, 2)
	if !equal(first, of(5, 2, 1)) || !equal(second, of(5, 2, 2, 3)) || !equal(third, of(5, 2)) {
		t.Error(first, second, third)
	}
}

func TestCheckRight(t *testing.T) { // P9.1: without symbols, with one at each place, all but one, full
	for _, n := range []int{1, 2, 5, 8, 9, 63, api.MaxSegs} {
		for _, passes := range []int{1, 2, 3, 15, api.MaxPasses} {
			wantRight(t, api.Pile{N: n, Passes: passes})
			wantRight(t, api.Pile{N: n, Passes: passes, Syms: []api.Sym{}})
			all := full(n, passes)
			wantRight(t, all)
			for at := range all.Syms {
				wantRight(t, of(n, passes, at))
				wantRight(t, api.Pile{N: n, Passes: passes, Syms: slices.Concat(all.Syms[:at], all.Syms[at+1:])})
			}
		}
	}
	for value := range 256 {
		wantRight(t, api.Pile{N: 2, Passes: 2, Syms: []api.Sym{{At: 0, Value: value}, {At: 3, Value: 255 - value}}})
	}
}

func TestCheckNumbers(t *testing.T) { // P9.1, R1, R5: its numbers out of their bounds, without symbols and with one
	for _, list := range [][]api.Sym{nil, syms(0), syms(0, 1, 2)} {
		for _, wrong := range noCount {
			for _, other := range append([]int{1, 2, 5, api.MaxPasses, api.MaxSegs}, noCount...) {
				wantWrong(t, api.Pile{N: wrong, Passes: other, Syms: list})
				wantWrong(t, api.Pile{N: other, Passes: wrong, Syms: list})
			}
		}
		for _, passes := range []int{api.MaxPasses + 1, 32, api.MaxSegs} {
			wantWrong(t, api.Pile{N: 5, Passes: passes, Syms: list})
		}
	}
	wantWrong(t, api.Pile{})
}

func TestCheckPlaces(t *testing.T) { // P9.1, R1: places that do not rise, that come twice, below 0, and behind the last
	for _, n := range []int{1, 5, 8, api.MaxSegs} {
		for _, passes := range []int{2, 3, api.MaxPasses} {
			end := n * passes
			for _, at := range []int{-1, -2, -end, end, end + 1, end + n, 2 * end, n * api.MaxPasses * 2, 1 << 32, 1<<32 + 1, math.MaxInt, math.MinInt} {
				wantWrong(t, of(n, passes, at))
				wantWrong(t, of(n, passes, 0, at))
				wantWrong(t, of(n, passes, at, end-1))
				wantWrong(t, of(n, passes, 0, at, end-1))
			}
			for i := range end - 1 {
				for _, places := range [][]int{{i, i}, {i + 1, i}, {0, i + 1, i}, {i, i, end - 1}, {0, 1, 0}, {i + 1, i, end - 1}} {
					wantWrong(t, of(n, passes, places...))
				}
			}
		}
	}
	wantWrong(t, of(5, 2, 0, 3, 2, 4))
	wantWrong(t, of(5, 2, 0, 1, 2, 4, 4))
	wantWrong(t, of(5, 2, 0, 1, 2, 3, 4, 5, 6, 7, 8, 9, 9))
	wantWrong(t, of(5, 2, 0, 1, 2, 3, 4, 5, 6, 7, 8, 9, 10))
	wantWrong(t, of(5, 2, slices.Repeat([]int{0}, 5000)...))
	wantWrong(t, of(5, 2, count(5000)...))
}

func TestCheckPlacesByPasses(t *testing.T) { // P9.1: the end is that of its own passes, not of all that may be
	for n := 1; n <= api.MaxSegs; n++ {
		for passes := 1; passes <= api.MaxPasses; passes++ {
			wantRight(t, of(n, passes, n*passes-1))
			if e := pile.Check(of(n, passes, n*passes)); e != api.ErrArg {
				t.Errorf("%d times %d: %d", n, passes, e)
			}
		}
	}
}

func TestCheckValues(t *testing.T) { // P9.1, R1: a value out of its bounds, first, last and in between
	for _, value := range noValue {
		for k := range 10 {
			p := full(5, 2)
			p.Syms[k].Value = value
			wantWrong(t, p)
		}
	}
}

func TestNothingIsTheSame(t *testing.T) { // R2: nil and an empty list
	for _, p := range []api.Pile{{N: 5, Passes: 2}, {N: 5, Passes: 2, Syms: []api.Sym{}}, {N: 5, Passes: 2, Syms: make([]api.Sym, 0, 9)}} {
		wantRight(t, p)
		if next, fresh, e := pile.Put(p, 3, 4); !equal(next, api.Pile{N: 5, Passes: 2, Syms: []api.Sym{{At: 3, Value: 4}}}) || !fresh || e != api.OK {
			t.Error(next, fresh, e)
		}
		if next, fresh, e := pile.Put(p, 10, 4); !equal(next, api.Pile{N: 5, Passes: 2}) || fresh || e != api.OK {
			t.Error(next, fresh, e)
		}
		if l, e := pile.Of(p, 3); len(l) != 0 || e != api.OK {
			t.Error(l, e)
		}
	}
}
