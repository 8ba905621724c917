package hear_test

import (
	"slices"
	"testing"

	"volute/api"
	"volute/hear"
)

// dice are numbers without a plan.
type dice uint32

func (d *dice) below(n int) int {
	*d = *d*1664525 + 1013904223
	return int(*d>>8) % n
}

// next is a packet without a plan: mostly of row and of the round at hand, some bits turned, some places beyond the round.
func (d *dice) next(seq, round int, row []byte) api.Data {
	from := d.below(len(row))
	count := 1 + d.below(api.MaxBatch)
	syms := slices.Clone(row[from:min(from+count, len(row))])
	switch d.below(8) {
	case 0:
		syms[d.below(len(syms))] ^= 1 << d.below(8)
	case 1:
		syms = append(syms, 1, 2, 3)[:min(len(syms)+3, api.MaxBatch)]
	case 2:
		from += d.below(len(row))
	case 3:
		round = d.below(3)
	}
	return api.Data{Seq: seq, Round: round, From: from, Syms: syms}
}

func TestTakeByText(t *testing.T) { // P19.2: scripts of packets without a plan, against the chapter's text
	seen := map[string]int{}
	for seed := range 150 {
		d := dice(seed * 7919)
		c := sized(1+d.below(4), 4+d.below(3), 1+d.below(api.MaxBeam), 1+d.below(2))
		seq := blockSeqs[d.below(len(blockSeqs))]
		row := rowOf(t, c, blockOf(t, c, seq, seed))
		h := newHear(t, c, seq)
		for range 14 {
			packet := d.next(seq, d.below(9)/8, row)
			want, accepted := byText(t, c, h, packet)
			switch {
			case accepted:
				seen["accepted"]++
			case want.Done:
				seen["behind"]++
			case h.Round != want.Round:
				seen["round"]++
			case len(h.Pile.Syms) == len(want.Pile.Syms):
				seen["stale"]++
			default:
				seen["more"]++
			}
			h = wantTake(t, c, h, packet, want, accepted)
		}
	}
	for _, kind := range []string{"accepted", "behind", "round", "stale", "more"} {
		if seen[kind] < 20 {
			t.Error(kind, seen)
		}
	}
}

func TestAgain(t *testing.T) { // R3: an answer hangs neither on what was asked ahead of it nor on how often; nothing is kept
	for seed := range 30 {
		d := dice(seed)
		c := sized(1+seed%3, 4, 1+seed%5, 1)
		row := rowOf(t, c, blockOf(t, c, 3, seed))
		h := newHear(t, c, 3)
		for range 6 {
			packet := d.next(3, 1, row)
			want, accepted := byText(t, c, h, packet)
			for range 2 {
				wantTake(t, c, h, packet, want, accepted)
				wantNoTake(t, c, h, api.Data{Seq: 4, Syms: []byte{1}})
				wantNew(t, c, 3)
				if _, _, e := hear.Take(c, newHear(t, c, 5), api.Data{Seq: 5, Round: 1, Syms: row[:30]}); e != api.OK {
					t.Fatal(e)
				}
			}
			h = want
		}
	}
}
