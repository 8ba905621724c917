package beam_test

import (
	"testing"

	"volute/api"
	"volute/beam"
)

func TestExample(t *testing.T) { // P12.3: example 1, with each beam and depth
	for _, n := range []int{1, 2, 3, 20, api.MaxSegs} {
		for _, passes := range []int{1, 4, api.MaxPasses} {
			for b := 1; b <= api.MaxBeam; b++ {
				for _, d := range depths {
					wantTie(t, right(t, n, passes), b, d)
				}
			}
		}
	}
}

// wantDecoded holds the answer to the list and the cut that the walk ends with, and tells if there is a path.
func wantDecoded(t *testing.T, p api.Pile, b, d int, l []api.Node, cut int) bool {
	t.Helper()
	for k, n := range l {
		if k == 1 && n.Metric == l[0].Metric {
			wantTie(t, p, b, d)
			return false
		}
	}
	if cut != none && cut <= l[0].Metric {
		wantTie(t, p, b, d)
		return false
	}
	wantPath(t, p, b, d, l[0].Path, l[0].Metric)
	return true
}

func TestDecode(t *testing.T) { // P12.3: against the walk that goes step by step
	told, ties := 0, 0
	for _, p := range append(piles(t), turned(t, []int{7, 0, 15, 3}, 4, 1), turned(t, []int{9, 9}, 2, 2)) {
		for _, b := range beams {
			for _, d := range depths[:2] {
				l, cuts := walkOf(t, p, b, d)
				if wantDecoded(t, p, b, d, l, leastCut(cuts)) {
					told++
				} else {
					ties++
				}
			}
		}
	}
	if told == 0 || ties == 0 {
		t.Error(told, ties)
	}
}

func TestDecodeKnown(t *testing.T) { // P12.3: all four symbols of both segments are those of 0, 15, and with bits turned
	l := []api.Sym{
		{At: 0, Value: 0x52}, {At: 1, Value: 0xc2}, {At: 2, Value: 0xe5}, {At: 3, Value: 0x4f}, {At: 4, Value: 0xfc}, {At: 5, Value: 0x8e}, {At: 6, Value: 0x01}, {At: 7, Value: 0x0b},
	}
	p := right(t, 2, 4, l...)
	for b := 1; b <= api.MaxBeam; b++ {
		for _, d := range depths {
			wantPath(t, p, b, d, known, 0)
		}
	}
	for i := range l {
		for k := range 8 {
			l[i].Value ^= 1 << k
			wantPath(t, p, 4, 1, known, 1)
			wantPath(t, p, api.MaxBeam, api.MaxDepth, known, 1)
			l[i].Value ^= 1 << k
		}
	}
	wantTie(t, right(t, 2, 4, l[0], l[2], l[4], l[6]), api.MaxBeam, 1)
}

func TestTieOfTheSecond(t *testing.T) { // P12.3: of one segment and the whole beam nothing is cut, so that the second alone makes a tie
	told, ties := 0, 0
	for value := range 256 {
		p := right(t, 1, 1, api.Sym{At: 0, Value: value})
		l, cut, e := beam.Walk(p, api.MaxBeam, 1)
		if cut != none || e != api.OK {
			t.Fatal(value, l, cut, e)
		}
		for _, d := range depths {
			if l[0].Metric == l[1].Metric {
				ties++
				wantTie(t, p, api.MaxBeam, d)
			} else {
				told++
				wantPath(t, p, api.MaxBeam, d, l[0].Path, l[0].Metric)
			}
		}
	}
	if told == 0 || ties == 0 {
		t.Error(told, ties)
	}
}

func TestTieOfTheThirdIsNone(t *testing.T) { // P12.3: those behind the second may cost the same as one another
	alike := 0
	for value := range 256 {
		p := right(t, 1, 1, api.Sym{At: 0, Value: value})
		l, _, e := beam.Walk(p, api.MaxBeam, 1)
		if e != api.OK {
			t.Fatal(value, e)
		}
		if l[0].Metric < l[1].Metric && l[1].Metric == l[2].Metric {
			alike++
			wantPath(t, p, api.MaxBeam, 1, l[0].Path, l[0].Metric)
		}
	}
	if alike == 0 {
		t.Error("no pile here has a second and a third that cost the same")
	}
}

func TestTieOfTheCut(t *testing.T) { // P12.3: a cut that is the Metric, one more, one less, where the second costs more than the first
	seen := map[int]int{}
	for seed := range 60 {
		p := turned(t, numbers(3, nibbles, seed), 3, 500+seed)
		for _, b := range []int{2, 3, 8} {
			l, cut, e := beam.Walk(p, b, 1)
			if e != api.OK {
				t.Fatal(p, b, e)
			}
			if l[1].Metric == l[0].Metric {
				continue
			}
			seen[cut-l[0].Metric]++
			if cut > l[0].Metric {
				wantPath(t, p, b, 1, l[0].Path, l[0].Metric)
			} else {
				wantTie(t, p, b, 1)
			}
		}
	}
	for _, more := range []int{-1, 0, 1} {
		if seen[more] == 0 {
			t.Errorf("no pile here has a cut that is %d more than the Metric", more)
		}
	}
}

func TestTieOfOneAlone(t *testing.T) { // P12.3: with a beam of one there is no second; its Score is the cut
	for value := range 256 {
		p := right(t, 1, 1, api.Sym{At: 0, Value: value})
		all, _, e := beam.Walk(p, api.MaxBeam, 1)
		l, cut, f := beam.Walk(p, 1, 1)
		if len(l) != 1 || cut != all[1].Metric || e != api.OK || f != api.OK {
			t.Fatal(value, l, cut, e, f)
		}
		wantDecoded(t, p, 1, 1, l, cut)
	}
}
