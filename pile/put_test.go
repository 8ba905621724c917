package pile_test

import (
	"math"
	"slices"
	"testing"

	"volute/api"
	"volute/pile"
)

func put(t *testing.T, p api.Pile, at, value int, wantFresh bool) api.Pile {
	t.Helper()
	next, fresh, e := pile.Put(p, at, value)
	if fresh != wantFresh || e != api.OK {
		t.Fatalf("Put(%v, %d, %d) = %v, %t, %d", p, at, value, next, fresh, e)
	}
	wantRight(t, next)
	if len(next.Syms) > p.N*p.Passes {
		t.Fatalf("%d symbols of %d times %d", len(next.Syms), p.N, p.Passes)
	}
	return next
}

// shuffled is 0, 1, .. below n in another order: step has no divisor in common with n.
func shuffled(n, step int) []int {
	l := make([]int, n)
	for i := range l {
		l[i] = i * step % n
	}
	return l
}

func TestPutKnown(t *testing.T) { // P9.2: worked out by hand; the second row is example 1
	p, _ := pile.New(5, 2)
	for _, c := range []struct {
		at, value int
		fresh     bool
		want      []api.Sym
	}{
		{7, 255, true, []api.Sym{{At: 7, Value: 255}}},
		{7, 1, false, []api.Sym{{At: 7, Value: 255}}},
		{7, 255, false, []api.Sym{{At: 7, Value: 255}}},
		{3, 0, true, []api.Sym{{At: 3, Value: 0}, {At: 7, Value: 255}}},
		{9, 8, true, []api.Sym{{At: 3, Value: 0}, {At: 7, Value: 255}, {At: 9, Value: 8}}},
		{10, 8, false, []api.Sym{{At: 3, Value: 0}, {At: 7, Value: 255}, {At: 9, Value: 8}}},
		{6, 5, true, []api.Sym{{At: 3, Value: 0}, {At: 6, Value: 5}, {At: 7, Value: 255}, {At: 9, Value: 8}}},
		{0, 5, true, []api.Sym{{At: 0, Value: 5}, {At: 3, Value: 0}, {At: 6, Value: 5}, {At: 7, Value: 255}, {At: 9, Value: 8}}},
		{0, 6, false, []api.Sym{{At: 0, Value: 5}, {At: 3, Value: 0}, {At: 6, Value: 5}, {At: 7, Value: 255}, {At: 9, Value: 8}}},
	} {
		p = put(t, p, c.at, c.value, c.fresh)
		if !equal(p, api.Pile{N: 5, Passes: 2, Syms: c.want}) {
			t.Errorf("%d at %d: %v, not %v", c.value, c.at, p, c.want)
		}
	}
}

func TestPutEachPlace(t *testing.T) { // P9.2: each place, on a pile with all the others
	for _, c := range [][2]int{{1, 1}, {1, 2}, {2, 1}, {5, 2}, {8, 3}, {1, api.MaxPasses}, {api.MaxSegs, 1}, {api.MaxSegs, api.MaxPasses}} {
		all := full(c[0], c[1])
		for at := range all.Syms {
			p := api.Pile{N: c[0], Passes: c[1], Syms: slices.Concat(all.Syms[:at], all.Syms[at+1:])}
			if got := put(t, p, at, valueAt(at), true); !equal(got, all) {
				t.Errorf("%v at %d: %v", c, at, got)
			}
			empty := of(c[0], c[1])
			if got := put(t, empty, at, valueAt(at), true); !equal(got, of(c[0], c[1], at)) {
				t.Errorf("%v at %d alone: %v", c, at, got)
			}
		}
	}
}

func TestPutEachValue(t *testing.T) { // P9.2
	p := of(5, 2, 2, 8)
	for value := range 256 {
		want := api.Pile{N: 5, Passes: 2, Syms: []api.Sym{{At: 2, Value: valueAt(2)}, {At: 4, Value: value}, {At: 8, Value: valueAt(8)}}}
		got := put(t, p, 4, value, true)
		if !equal(got, want) {
			t.Errorf("%d: %v", value, got)
		}
		if again := put(t, got, 4, 255-value, false); !equal(again, want) {
			t.Errorf("%d: %v", value, again)
		}
	}
}

func TestFillUp(t *testing.T) { // P9.2, P9.3: rising, falling and mixed; then nothing is fresh any more, and it is never more than N times Passes
	for _, c := range [][2]int{{1, 1}, {1, 4}, {2, 1}, {5, 2}, {7, 9}, {api.MaxSegs, 1}, {1, api.MaxPasses}, {api.MaxSegs, api.MaxPasses}} {
		end := c[0] * c[1]
		falling := count(end)
		slices.Reverse(falling)
		for _, order := range [][]int{count(end), falling, shuffled(end, 11), shuffled(end, 1009)} {
			p, _ := pile.New(c[0], c[1])
			for k, at := range order {
				p = put(t, p, at, valueAt(at), true)
				if len(p.Syms) != k+1 {
					t.Fatalf("%v: %d symbols, not %d", c, len(p.Syms), k+1)
				}
			}
			if !equal(p, full(c[0], c[1])) {
				t.Errorf("%v by %v: %v", c, order, p)
			}
			for at := range 2 * end {
				if got := put(t, p, at, 255-valueAt(at), false); !equal(got, p) {
					t.Errorf("%v at %d: %v", c, at, got)
				}
			}
		}
	}
}

func TestPutBehind(t *testing.T) { // P9.2, R5: a place that the pile does not have is no fault, however far it is
	for n := 1; n <= api.MaxSegs; n++ {
		for passes := 1; passes <= api.MaxPasses; passes++ {
			p := of(n, passes, 0)
			end := n * passes
			for _, at := range []int{end, end + 1, end + n, 2*end + 3, api.MaxSegs * api.MaxPasses, 1 << 31, 1 << 32, 1<<32 + 1, 1 << 62, math.MaxInt - 1, math.MaxInt} {
				if got := put(t, p, at, 9, false); !equal(got, p) {
					t.Errorf("%d, %d at %d: %v", n, passes, at, got)
				}
			}
		}
	}
}

func TestPutWrong(t *testing.T) { // P9.2, R1, R4: each of the two wrong alone, and both; a value that may not be is one too where nothing would be put
	for _, p := range []api.Pile{of(1, 1), of(5, 2), of(5, 2, 0, 3, 9), full(5, 2), full(api.MaxSegs, api.MaxPasses)} {
		none := func(at, value int) {
			t.Helper()
			if next, fresh, e := pile.Put(p, at, value); !isZero(next) || fresh || e != api.ErrArg {
				t.Errorf("Put(%v, %d, %d) = %v, %t, %d", p, at, value, next, fresh, e)
			}
		}
		noPlace := []int{-1, -2, -10, -1 << 31, -1 << 32, 1 - 1<<32, -1 << 62, math.MinInt, math.MinInt + 1, math.MinInt + 9}
		for _, at := range noPlace {
			for _, value := range append([]int{0, 1, 128, 255}, noValue...) {
				none(at, value)
			}
		}
		for _, value := range noValue {
			for _, at := range []int{0, 1, 3, 4, 9, 10, 11, 1023, 1024, 1 << 32, math.MaxInt} {
				none(at, value)
			}
		}
	}
}

func TestPutKeepsNothing(t *testing.T) { // R2, R3: a pile stays as it is, whatever is put on it, and two that come from one have nothing in common
	first := of(5, 2, 1, 4, 6)
	a := put(t, first, 2, 20, true)
	b := put(t, first, 2, 30, true)
	same := put(t, first, 4, 40, false)
	beyond := put(t, first, 10, 40, false)
	for _, p := range []api.Pile{a, b, same, beyond} {
		p.Syms[0].Value = 99
	}
	last := put(t, a, 9, 50, true)
	last.Syms[1].Value = 77
	for _, c := range []struct{ got, want api.Pile }{
		{first, of(5, 2, 1, 4, 6)},
		{a, api.Pile{N: 5, Passes: 2, Syms: []api.Sym{{At: 1, Value: 99}, {At: 2, Value: 20}, {At: 4, Value: valueAt(4)}, {At: 6, Value: valueAt(6)}}}},
		{b, api.Pile{N: 5, Passes: 2, Syms: []api.Sym{{At: 1, Value: 99}, {At: 2, Value: 30}, {At: 4, Value: valueAt(4)}, {At: 6, Value: valueAt(6)}}}},
		{same, api.Pile{N: 5, Passes: 2, Syms: []api.Sym{{At: 1, Value: 99}, {At: 4, Value: valueAt(4)}, {At: 6, Value: valueAt(6)}}}},
		{beyond, api.Pile{N: 5, Passes: 2, Syms: []api.Sym{{At: 1, Value: 99}, {At: 4, Value: valueAt(4)}, {At: 6, Value: valueAt(6)}}}},
	} {
		if !equal(c.got, c.want) {
			t.Errorf("%v, not %v", c.got, c.want)
		}
	}
}
