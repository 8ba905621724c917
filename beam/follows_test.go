package beam_test

import (
	"slices"
	"testing"

	"volute/api"
	"volute/beam"
	"volute/bit"
	"volute/code"
)

// wantOwn holds the answer to the path whose own symbols the pile has, or to none, and tells which.
func wantOwn(t *testing.T, p api.Pile, b, d int, own []int) bool {
	t.Helper()
	path, metric, e := beam.Decode(p, b, d)
	switch {
	case e == api.ErrTie && len(path) == 0 && metric == 0:
		return false
	case e == api.OK && slices.Equal(path, own) && metric == 0:
		return true
	}
	t.Errorf("Decode(%v, %d, %d) = %v, %d, %d, not %v", p, b, d, path, metric, e, own)
	return false
}

func TestOwnOrNone(t *testing.T) { // P12.4, T2: with every beam and depth, and some symbols left out
	told, ties := 0, 0
	for seed := range 40 {
		path := numbers(1+seed%9, nibbles, seed)
		for _, of := range []int{2, 5, 9} { // so many of ten are there
			there := numbers(len(path)*4, 10, seed+of)
			p := ownPile(t, path, 4, func(segment, index int) bool { return there[4*segment+index] < of })
			for b := 1; b <= api.MaxBeam; b++ {
				for _, d := range depths[:2] {
					if wantOwn(t, p, b, d, path) {
						told++
					} else {
						ties++
					}
				}
			}
			wantOwn(t, p, 1, api.MaxDepth, path)
			wantOwn(t, p, 4, api.MaxDepth, path)
		}
	}
	if told == 0 || ties == 0 {
		t.Error(told, ties)
	}
}

func TestOwnPassByPass(t *testing.T) { // P12.4, T2, T5: a block's symbols as they come: it is told of four passes, and ahead of that it or none
	for _, b := range [][]byte{{0}, {255}, []byte("volute"), []byte("twenty-two bytes of it"), make([]byte, api.MaxSegs/2)} {
		path, e := bit.Nibbles(b)
		n := code.Segs(len(b))
		row, f := code.Encode(b, 0, 4*n)
		if e != api.OK || f != api.OK {
			t.Fatal(b, e, f)
		}
		p := right(t, n, 6)
		for k, x := range row {
			p.Syms = append(p.Syms, api.Sym{At: k, Value: int(x)})
			wantOwn(t, p, 1, 1, path)
			if k%7 == 0 {
				wantOwn(t, p, 1+k%api.MaxBeam, 1+k%2, path)
			}
		}
		for _, d := range depths {
			wantPath(t, p, 1, d, path, 0)
		}
	}
}

func TestFourAreEnough(t *testing.T) { // P12.4, T5: the first four symbols of each segment, with every beam and depth
	for n := 1; n <= api.MaxSegs; n++ {
		path := numbers(n, nibbles, n)
		least := ownPile(t, path, 4, func(_, _ int) bool { return true })
		most := ownPile(t, path, api.MaxPasses, func(_, index int) bool { return index < 4 })
		for b := 1; b <= api.MaxBeam; b++ {
			for _, d := range depths {
				if n > 8 && (3*b+d)%16 != n%16 {
					continue // some of them are enough where each takes long
				}
				wantPath(t, least, b, d, path, 0)
				wantPath(t, most, b, d, path, 0)
			}
		}
	}
}

func TestFourAndMore(t *testing.T) { // P12.4: the first four of each segment, and any of those behind them
	for seed := range 30 {
		path := numbers(2+seed, nibbles, seed)
		more := numbers(len(path)*api.MaxPasses, 2, seed)
		p := ownPile(t, path, api.MaxPasses, func(segment, index int) bool { return index < 4 || more[segment*api.MaxPasses+index] == 1 })
		for _, b := range beams {
			wantPath(t, p, b, 1, path, 0)
			wantPath(t, p, b, 2, path, 0)
		}
	}
}

func TestLastSegmentLeftOut(t *testing.T) { // P12.4: nothing was heard of it, so that sixteen paths cost the same
	for n := 1; n <= 12; n++ {
		path := numbers(n, nibbles, n)
		p := ownPile(t, path, 4, func(segment, _ int) bool { return segment < n-1 })
		for b := 1; b <= api.MaxBeam; b++ {
			for _, d := range depths {
				wantTie(t, p, b, d)
			}
		}
	}
}

func TestMiddleSegmentLeftOut(t *testing.T) { // P12.4: what is behind it tells it, if the beam is wide enough or the depth reaches that far
	path := numbers(9, nibbles, 1)
	for gap := range len(path) - 1 {
		p := ownPile(t, path, 4, func(segment, _ int) bool { return segment != gap })
		for _, b := range []int{1, 2, api.MaxBeam - 1} {
			wantTie(t, p, b, 1)
		}
		wantPath(t, p, api.MaxBeam, 1, path, 0)
		for _, b := range beams {
			wantPath(t, p, b, 2, path, 0)
			wantPath(t, p, b, api.MaxDepth, path, 0)
		}
	}
}

func TestTurnedBitsAreCounted(t *testing.T) { // P12.3: a few bits turned among many symbols: the path is told, and how many they were
	path := numbers(20, nibbles, 2)
	p := ownPile(t, path, 8, func(_, _ int) bool { return true })
	for turned := range 12 {
		wantPath(t, p, api.MaxBeam, 1, path, turned)
		wantPath(t, p, 4, 2, path, turned)
		p.Syms[13*turned].Value ^= 1 << (turned % 8)
	}
}
