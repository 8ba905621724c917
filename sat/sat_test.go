package sat_test

import (
	"math"
	"math/big"
	"testing"

	"volute/api"
	"volute/sat"
)

const top = api.MaxCount

// edges are -1, 0, 1, those around MaxCount, the greatest and the least int, each power of two and those beside it, below 0 too, and some without a plan.
func edges() []int {
	list := []int{-1, 0, 1, top - 1, top, top + 1, math.MaxInt, math.MaxInt - 1, math.MinInt, math.MinInt + 1, top / 2, top/2 + 1, top/2 - 1, 2*top - 1, 2*top + 1}
	list = append(list, math.MaxInt-top, math.MaxInt-top+1, math.MinInt+top, math.MinInt+top+1, 5, 258, 1000000007, -1000000007, 1<<32+7, 7-1<<32)
	for k := range 63 {
		x := 1 << k
		list = append(list, x, x-1, x+1, -x, -x-1, -x+1, top-x)
	}
	return list
}

// counts is what n counts as, by the chapter's text.
func counts(n int) int {
	switch {
	case n < 0:
		return 0
	case n > top:
		return top
	}
	return n
}

// byText is the answer in numbers without bounds.
func byText(n, more int) int {
	sum := new(big.Int).Add(big.NewInt(int64(counts(n))), big.NewInt(int64(counts(more))))
	if most := big.NewInt(top); sum.Cmp(most) > 0 {
		sum = most
	}
	return int(sum.Int64())
}

func wantSum(t *testing.T, n, more, want int) {
	t.Helper()
	if got := sat.Add(n, more); got != want {
		t.Errorf("Add(%d, %d) = %d, not %d", n, more, got, want)
	}
}

func TestExample(t *testing.T) { // example 1
	wantSum(t, top, 1, top)
}

func TestOrdinary(t *testing.T) { // P16.1
	for _, c := range [][3]int{
		{0, 0, 0}, {0, 1, 1}, {1, 0, 1}, {1, 1, 2}, {2, 3, 5}, {3, 2, 5}, {7, 250, 257}, {255, 1, 256}, {65535, 1, 65536}, {123456, 654321, 777777},
		{1000000, 24, 1000024}, {536870912, 1, 536870913}, {1000000000, 73741823, 1073741823},
	} {
		wantSum(t, c[0], c[1], c[2])
	}
	for n := range 300 {
		for more := range 300 {
			wantSum(t, n, more, n+more)
		}
	}
}

func TestKnownEdges(t *testing.T) { // P16.1, R1, R5: each edge of the chapter beside each other one, written out by hand
	given := [...]int{math.MinInt, -1, 0, 1, 1073741823, 1073741824, 1073741825, math.MaxInt}
	const low, m = 1073741823, 1073741824
	want := [...][len(given)]int{
		{0, 0, 0, 1, low, m, m, m},
		{0, 0, 0, 1, low, m, m, m},
		{0, 0, 0, 1, low, m, m, m},
		{1, 1, 1, 2, m, m, m, m},
		{low, low, low, m, m, m, m, m},
		{m, m, m, m, m, m, m, m},
		{m, m, m, m, m, m, m, m},
		{m, m, m, m, m, m, m, m},
	}
	for i, n := range given {
		for k, more := range given {
			wantSum(t, n, more, want[i][k])
		}
	}
}

func TestEdges(t *testing.T) { // P16.1, R1, R5: many edges, each beside each other one
	for _, n := range edges() {
		for _, more := range edges() {
			wantSum(t, n, more, byText(n, more))
		}
	}
}

func TestAroundMaxCount(t *testing.T) { // P16.1: sums that come to MaxCount, to one less and to one more
	parts := []int{1, 2, 3, 10, 255, 256, 65536, 1000000, top / 3, top/2 - 1, top / 2, top/2 + 1, top - 256, top - 2, top - 1}
	for i := range 1000 {
		parts = append(parts, i+1, top-1-i, 1+i*1073741)
	}
	for _, n := range parts {
		wantSum(t, n, top-n, top)
		wantSum(t, n, top-n-1, top-1)
		wantSum(t, n, top-n+1, top)
	}
	wantSum(t, 0, top, top)
	wantSum(t, 0, top-1, top-1)
	wantSum(t, 0, top+1, top)
}

func TestBelowNought(t *testing.T) { // P16.1: what is below 0 counts as 0 on either side, and takes nothing away
	for _, x := range edges() {
		if x >= 0 {
			continue
		}
		for _, other := range edges() {
			wantSum(t, other, x, counts(other))
			wantSum(t, x, other, counts(other))
		}
	}
}

func TestAboveMaxCount(t *testing.T) { // P16.1: what is above MaxCount counts as MaxCount on either side
	for _, x := range edges() {
		if x < top {
			continue
		}
		for _, other := range edges() {
			wantSum(t, other, x, top)
			wantSum(t, x, other, top)
		}
	}
}

func TestOrderIsNothing(t *testing.T) { // P16.1
	for _, n := range edges() {
		for _, more := range edges() {
			if a, b := sat.Add(n, more), sat.Add(more, n); a != b {
				t.Errorf("Add(%d, %d) = %d, the other way round %d", n, more, a, b)
			}
		}
	}
}

func TestNeverFalls(t *testing.T) { // P16.2: no answer is below what either number counts as, nor above MaxCount
	for _, n := range edges() {
		for _, more := range edges() {
			if got := sat.Add(n, more); got < counts(n) || got < counts(more) || got < 0 || got > top {
				t.Errorf("Add(%d, %d) = %d", n, more, got)
			}
		}
	}
}

func TestMoreIsNoLess(t *testing.T) { // P16.2: one more on either side never makes the answer less, nor greater by more than one
	for _, n := range edges() {
		if n == math.MaxInt {
			continue
		}
		for _, more := range edges() {
			got := sat.Add(n, more)
			if next := sat.Add(n+1, more); next < got || next > got+1 {
				t.Errorf("Add(%d, %d) = %d, of one more %d", n, more, got, next)
			}
		}
	}
}

func TestCounterRises(t *testing.T) { // P16.2: a counter from 0 on, told numbers of all kinds one after the other, till it stays
	counter := 0
	for round := range 60 {
		for _, more := range edges() {
			if more > 1<<(round/2+5) {
				continue
			}
			was := counter
			counter = sat.Add(counter, more)
			if counter < was || counter != byText(was, more) {
				t.Fatalf("Add(%d, %d) = %d", was, more, counter)
			}
		}
	}
	if counter != top {
		t.Error(counter)
	}
}

func TestCounterReachesMaxCount(t *testing.T) { // P16.1, P16.2: one by one up to MaxCount, and not beyond
	counter := top - 1000
	for i := range 2000 {
		counter = sat.Add(counter, 1)
		if want := min(top-999+i, top); counter != want {
			t.Fatalf("%d, not %d", counter, want)
		}
	}
}

func TestCounterStays(t *testing.T) { // P16.2: a counter at MaxCount stays there, whatever is told to it
	counter := top
	for _, more := range edges() {
		if counter = sat.Add(counter, more); counter != top {
			t.Fatalf("Add(%d, %d) = %d", top, more, counter)
		}
	}
}

func TestSameAgain(t *testing.T) { // R3: an answer hangs neither on what was asked ahead of it nor on how often; nothing is kept
	list := edges()
	ahead := make([]int, len(list))
	for i, n := range list {
		ahead[i] = sat.Add(n, list[len(list)-1-i])
	}
	for i := len(list) - 1; i >= 0; i-- {
		sat.Add(math.MaxInt, list[i])
		wantSum(t, list[i], list[len(list)-1-i], ahead[i])
		wantSum(t, list[i], list[len(list)-1-i], ahead[i])
	}
}
