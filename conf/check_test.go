package conf_test

import (
	"math"
	"testing"

	"volute/api"
	"volute/conf"
)

func wantCheck(t *testing.T, c api.Config, right bool) {
	t.Helper()
	want := api.ErrArg
	if right {
		want = api.OK
	}
	if got := conf.Check(c); got != want {
		t.Errorf("Check(%+v) = %d, not %d", c, got, want)
	}
}

// wantNothing asks all calls but Check about a Config that is not right.
func wantNothing(t *testing.T, c api.Config) {
	t.Helper()
	if segs, most, ticks := conf.Segs(c), conf.Most(c), conf.Ticks(c); segs != 0 || most != 0 || ticks != 0 {
		t.Errorf("%+v: Segs %d, Most %d, Ticks %d", c, segs, most, ticks)
	}
	for _, n := range []int{math.MinInt, -1, 0, 1, 4, 5, 30, 200, 201, 2000, 2001, math.MaxInt} {
		if blocks, cycles := conf.Blocks(c, n), conf.Cycles(c, n); blocks != 0 || cycles != 0 {
			t.Errorf("%+v: of %d Blocks %d, Cycles %d", c, n, blocks, cycles)
		}
	}
}

func TestLimits(t *testing.T) { // the edges that these tests write out are the limits
	greatest := []int{api.MaxBlock, api.MaxBeam, api.MaxDepth, api.MaxWindow, api.MaxQueue, api.MaxQueue, api.MaxBatch, api.MaxPasses, api.MaxMsg, api.MaxSeq}
	for k, f := range fields() {
		if f.greatest != greatest[k] {
			t.Error(f.name, f.greatest, greatest[k])
		}
	}
}

func TestCheckOrdinary(t *testing.T) { // P17.1
	wantCheck(t, plain(), true)
	wantCheck(t, api.Config{Bytes: 1, Beam: 1, Depth: 1, Window: 1, Qs: 1, Qr: 1, Batch: 1, Passes: 4}, true)
	wantCheck(t, api.Config{Bytes: 16, Beam: 16, Depth: 3, Window: 16, Qs: 16, Qr: 16, Batch: 64, Passes: 16, Msg: 200, Seqs: 1 << 30}, true)
	for _, c := range rights() {
		wantCheck(t, c, true)
	}
}

func TestCheckEveryNumber(t *testing.T) { // P17.1: each field, the others right, at every number around those that it may be
	for _, f := range fields() {
		for x := -300; x <= 300; x++ {
			wantCheck(t, f.with(x), x >= f.least && x <= f.greatest)
		}
	}
}

func TestCheckEdges(t *testing.T) { // P17.1, R1, R5: each field at its edges and beside them, the others right
	for _, f := range fields() {
		wantCheck(t, f.with(f.least-1), false)
		wantCheck(t, f.with(f.least), true)
		wantCheck(t, f.with(f.greatest), true)
		wantCheck(t, f.with(f.greatest+1), false)
		wantCheck(t, f.with(math.MaxInt), false)
		wantCheck(t, f.with(math.MinInt), false)
		for _, x := range f.wrong() {
			wantCheck(t, f.with(x), false)
		}
	}
}

func TestCheckFieldsAlone(t *testing.T) { // P17.1: no field's edge hangs on another field
	for _, f := range fields() {
		for _, c := range rights() {
			for _, x := range append(f.right(), f.wrong()...) {
				*f.of(&c) = x
				wantCheck(t, c, isRight(c))
			}
		}
	}
}

func TestCheckZero(t *testing.T) { // P17.1
	wantCheck(t, api.Config{}, false)
	wantNothing(t, api.Config{})
}

func TestCheckSeveralWrong(t *testing.T) { // P17.1: fields that are wrong do not make each other right
	for _, c := range wrongs() {
		wantCheck(t, c, false)
	}
}

func TestNothingOfWrong(t *testing.T) { // P17.1, R1, R5: all other calls answer 0, whatever is wrong
	for _, c := range wrongs() {
		wantNothing(t, c)
	}
}

func TestNothingBelowNought(t *testing.T) { // P17.1: numbers below 0, of Configs that are right
	for _, c := range rights() {
		for _, n := range []int{-1, -2, -c.Bytes, -c.Bytes - 1, -200, -2000, -1 << 31, -1 << 32, 5 - 1<<32, -1 << 62, math.MinInt + 1, math.MinInt} {
			if blocks, cycles := conf.Blocks(c, n), conf.Cycles(c, n); blocks != 0 || cycles != 0 {
				t.Errorf("%+v: of %d Blocks %d, Cycles %d", c, n, blocks, cycles)
			}
		}
	}
}
