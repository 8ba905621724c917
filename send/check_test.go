package send_test

import (
	"math"
	"slices"
	"testing"

	"volute/api"
	"volute/send"
)

func TestNew(t *testing.T) { // P22.1: all 0, not Closed, whatever the Config is, as long as it is right
	for _, c := range []api.Config{plain(), least(), greatest(), with(plain(), func(c *api.Config) { c.Seqs, c.Msg = 0, 0 })} {
		got, e := send.New(c)
		if !same(got, api.Sender{Config: c}) || e != api.OK {
			t.Errorf("New(%+v) = %+v, %d", c, got, e)
		}
		wantRight(t, got)
	}
}

func TestConfigWrong(t *testing.T) { // P22.1, R4: one field alone, of an end that was told nothing, and of one that was told much
	for _, c := range wrongConfigs(plain()) {
		if got, e := send.New(c); !same(got, api.Sender{}) || e != api.ErrArg {
			t.Errorf("New(%+v) = %+v, %d", c, got, e)
		}
		wantWrong(t, api.Sender{Config: c})
		wantWrong(t, changed(made(plain(), 0, 2, 3, 6), func(s *api.Sender) { s.Config = c }))
		wantWrong(t, changed(made(plain(), 4), func(s *api.Sender) { s.Config = c }))
	}
}

func TestRight(t *testing.T) { // P22.1: each edge
	for _, s := range rightSenders() {
		wantRight(t, s)
	}
}

func TestClose(t *testing.T) { // P22.1: nothing else changes; one that is Closed stays so
	for _, s := range rightSenders() {
		again := wantClose(t, wantClose(t, s))
		if !again.Closed {
			t.Error(again)
		}
	}
}

// counters are the three numbers of a Sender that stay at MaxCount.
func counters() []func(s *api.Sender) *int {
	return []func(s *api.Sender) *int{
		func(s *api.Sender) *int { return &s.Clock },
		func(s *api.Sender) *int { return &s.Refused },
		func(s *api.Sender) *int { return &s.Bad },
	}
}

func TestCounters(t *testing.T) { // a right Sender: each counter alone, at its edges and beside them
	for _, base := range []api.Sender{{Config: plain()}, made(plain(), 0, 2, 3, 6), made(greatest(), 7, 20)} {
		for _, of := range counters() {
			for _, n := range []int{0, 1, api.MaxCount - 1, api.MaxCount} {
				wantRight(t, changed(base, func(s *api.Sender) { *of(s) = n }))
			}
			for _, n := range []int{-1, -2, api.MaxCount + 1, 2 * api.MaxCount, 1<<31 - 1, 1 << 31, 1 << 32, 1<<32 + 1, -1 << 32, 1 - 1<<32, math.MaxInt, math.MinInt} {
				wantWrong(t, changed(base, func(s *api.Sender) { *of(s) = n }))
			}
		}
	}
}

// isByText is what the chapter says of a Sender whose Config, counters and Waits are right.
func isByText(s api.Sender) bool {
	if s.Base < 0 || s.Base > s.Next || s.Next > s.Config.Seqs || len(s.Ends) > s.Config.Qs {
		return false
	}
	for i, end := range s.Ends {
		if end <= s.Base || end > s.Next || i > 0 && end <= s.Ends[i-1] {
			return false
		}
	}
	if len(s.Ends) == 0 && s.Base != s.Next || len(s.Ends) > 0 && s.Ends[len(s.Ends)-1] != s.Next {
		return false
	}
	return s.Sent >= len(s.Ends) && s.Sent <= s.Next
}

// allEnds are all lists of at most so many of the numbers from -1 to top.
func allEnds(most, top int) [][]int {
	list := [][]int{nil}
	for from, n := 0, 0; n < most; n++ {
		end := len(list)
		for _, l := range list[from:end] {
			for x := -1; x <= top; x++ {
				list = append(list, append(slices.Clone(l), x))
			}
		}
		from = end
	}
	return list
}

func TestAllSmall(t *testing.T) { // a right Sender: Base, Next, Seqs, Sent and Ends, each beside each other one
	right := 0
	for _, ends := range allEnds(3, 4) {
		for base := -1; base <= 4; base++ {
			for next := -1; next <= 4; next++ {
				s := api.Sender{Config: plain(), Base: base, Next: next, Ends: ends, Waits: waits(plain(), base, next)}
				s.Config.Seqs, s.Config.Qs = 3, 2
				for s.Sent = -1; s.Sent <= 4; s.Sent++ {
					want := api.ErrArg
					if isByText(s) {
						want = api.OK
						right++
					}
					if e := send.Check(s); e != want {
						t.Fatalf("Check(%+v) = %d", s, e)
					}
				}
			}
		}
	}
	if right < 20 {
		t.Error(right)
	}
}

func TestNumbersWrong(t *testing.T) { // P22.1, R4: one thing alone
	for name, s := range map[string]api.Sender{
		"Next above Seqs":                     changed(made(plain(), 0, 2, 3, 6), func(s *api.Sender) { s.Config.Seqs = 5 }),
		"Next above Seqs, all of it had":      changed(made(plain(), 6), func(s *api.Sender) { s.Config.Seqs = 5 }),
		"Next above MaxSeq":                   made(greatest(), api.MaxSeq+1),
		"Base below 0":                        {Config: plain(), Base: -1, Next: -1, Sent: -1},
		"Base below 0, none had":              changed(made(plain(), 0, 2), func(s *api.Sender) { s.Base, s.Waits = -1, waits(plain(), -1, 2) }),
		"Base above Next":                     {Config: plain(), Base: 4, Next: 3, Sent: 1},
		"Base above Next, with an end":        {Config: plain(), Base: 4, Next: 3, Sent: 1, Ends: []int{3}},
		"Ends that fall":                      changed(made(plain(), 0, 2, 3, 6), func(s *api.Sender) { s.Ends = []int{3, 2, 6} }),
		"Ends twice":                          changed(made(plain(), 0, 2, 3, 6), func(s *api.Sender) { s.Ends = []int{2, 2, 6} }),
		"the last of Ends twice":              changed(made(plain(), 0, 2, 3, 6), func(s *api.Sender) { s.Ends = []int{2, 6, 6} }),
		"an end at Base":                      changed(made(plain(), 2, 3, 6), func(s *api.Sender) { s.Ends = []int{2, 3, 6} }),
		"an end at Base 0":                    changed(made(plain(), 0, 3, 6), func(s *api.Sender) { s.Ends = []int{0, 3, 6} }),
		"an end below Base":                   changed(made(plain(), 2, 3, 6), func(s *api.Sender) { s.Ends = []int{1, 3, 6} }),
		"an end above Next":                   changed(made(plain(), 0, 2, 3, 6), func(s *api.Sender) { s.Ends = []int{2, 7, 6} }),
		"the last end above Next":             changed(made(plain(), 0, 2, 3, 6), func(s *api.Sender) { s.Ends = []int{2, 3, 7} }),
		"the last end below Next":             changed(made(plain(), 0, 2, 3, 6), func(s *api.Sender) { s.Ends = []int{2, 3, 5} }),
		"the last end ahead of Next":          changed(made(plain(), 0, 2, 3, 6), func(s *api.Sender) { s.Ends = []int{2, 3} }),
		"no end":                              changed(made(plain(), 0, 2, 3, 6), func(s *api.Sender) { s.Ends = nil }),
		"no end, one block":                   changed(made(plain(), 5, 6), func(s *api.Sender) { s.Ends = []int{} }),
		"an end, all had":                     changed(made(plain(), 6), func(s *api.Sender) { s.Ends = []int{6} }),
		"one end too many":                    changed(made(plain(), 0, 2, 3, 5, 6), func(s *api.Sender) { s.Config.Qs = 3 }),
		"one end too many, of one":            changed(made(plain(), 0, 2, 3), func(s *api.Sender) { s.Config.Qs = 1 }),
		"Sent less than Ends":                 changed(made(plain(), 0, 2, 3, 6), func(s *api.Sender) { s.Sent = 2 }),
		"Sent less than Ends, much was had":   changed(made(plain(), 9, 12, 13, 16), func(s *api.Sender) { s.Sent = 2 }),
		"Sent below 0":                        changed(made(plain(), 3), func(s *api.Sender) { s.Sent = -1 }),
		"Sent more than Next":                 changed(made(plain(), 0, 2, 3, 6), func(s *api.Sender) { s.Sent = 7 }),
		"Sent more than Next, all of it had":  changed(made(plain(), 3), func(s *api.Sender) { s.Sent = 4 }),
		"Sent of a new one":                   {Config: plain(), Sent: 1},
		"Sent more than Next at the greatest": changed(made(greatest(), api.MaxSeq), func(s *api.Sender) { s.Sent = api.MaxSeq + 1 }),
	} {
		if isByText(s) {
			t.Error(name, "is right by the text")
		}
		wantWrong(t, s)
	}
}

func TestNumbersFarOff(t *testing.T) { // R1, R5: numbers whose difference or sum would wrap
	far := []int{math.MinInt, math.MinInt + 1, math.MinInt + 3, -1 << 32, -1, 3 + 1<<32, api.MaxSeq + 1, math.MaxInt - 2, math.MaxInt}
	near := append([]int{0, 3, 6}, far...)
	for _, c := range []api.Config{plain(), greatest()} {
		for _, base := range near {
			for _, next := range near {
				for _, sum := range near {
					for _, ends := range [][]int{nil, {next}, {base + 1, next}, {math.MinInt}, {math.MaxInt}, {math.MinInt, math.MaxInt}} {
						if !slices.Contains(far, base) && !slices.Contains(far, next) && !slices.Contains(far, sum) {
							continue
						}
						s := api.Sender{Config: c, Base: base, Next: next, Sent: sum, Ends: ends}
						if d := next - base; d > 0 && d < 9 {
							s.Waits = waits(c, 0, d)
						}
						if e := send.Check(s); e != api.ErrArg || send.Confirmed(s) != 0 {
							t.Fatalf("Check(%+v) = %d", s, e)
						}
						if _, e := send.Learn(s, packetOf(t, 3, 0)); e != api.ErrArg {
							t.Fatalf("Learn(%+v) = %d", s, e)
						}
					}
				}
			}
		}
	}
}

func TestWaitsHowMany(t *testing.T) { // P22.1: one too few, at each end, one too many, none, twice as many
	for _, s := range rightSenders() {
		n := len(s.Waits)
		more := waits(s.Config, s.Base, s.Next+1)
		if s.Next == api.MaxSeq {
			more[n].Seq = 0
		}
		wantWrong(t, changed(s, func(s *api.Sender) { s.Waits = append(s.Waits, more[n]) }))
		if n == 0 {
			continue
		}
		wantWrong(t, changed(s, func(s *api.Sender) { s.Waits = s.Waits[:n-1] }))
		wantWrong(t, changed(s, func(s *api.Sender) { s.Waits = s.Waits[1:] }))
		wantWrong(t, changed(s, func(s *api.Sender) { s.Waits = nil }))
		wantWrong(t, changed(s, func(s *api.Sender) { s.Waits = append(s.Waits, s.Waits...) }))
	}
}

func TestWaitsEach(t *testing.T) { // P22.1: one alone that is no right Emit, or has another number, at each place, also behind the window
	for _, s := range []api.Sender{made(plain(), 0, 1), made(plain(), 0, 2, 3, 6), made(plain(), 5, 6, 9, 10, 12), acked(made(plain(), 0, 5), 0, 1, 2, 3, 4), made(greatest(), 7, 13, 40)} {
		size := s.Config.Bytes + extra
		for i := range s.Waits {
			for _, change := range []func(w *api.Emit){
				func(w *api.Emit) { w.Bytes = nil },
				func(w *api.Emit) { w.Bytes = w.Bytes[:size-1] },
				func(w *api.Emit) { w.Bytes = text(size+1, 3) },
				func(w *api.Emit) { w.Round = -1 },
				func(w *api.Emit) { w.Round = 256 },
				func(w *api.Emit) { w.From = -1 },
				func(w *api.Emit) { w.From = most(s.Config) + 1 },
				func(w *api.Emit) { w.Seq++ },
				func(w *api.Emit) { w.Seq-- },
				func(w *api.Emit) { w.Seq = s.Next },
				func(w *api.Emit) { w.Seq += 1 << 32 },
				func(w *api.Emit) { w.Seq = -1 },
				func(w *api.Emit) { w.Seq = math.MinInt },
				func(w *api.Emit) { w.Seq = math.MaxInt },
			} {
				wantWrong(t, changed(s, func(s *api.Sender) { change(&s.Waits[i]) }))
			}
		}
	}
}

func TestWaitsInOrder(t *testing.T) { // P22.1: each two in another order, one twice, all one number further
	for _, s := range []api.Sender{made(plain(), 0, 2, 3, 6), made(plain(), 5, 6, 9, 10, 12)} {
		for i := range s.Waits {
			for j := range i {
				wantWrong(t, changed(s, func(s *api.Sender) { s.Waits[i], s.Waits[j] = s.Waits[j], s.Waits[i] }))
				wantWrong(t, changed(s, func(s *api.Sender) { s.Waits[i] = s.Waits[j] }))
			}
		}
		wantWrong(t, changed(s, func(s *api.Sender) { slices.Reverse(s.Waits) }))
		wantWrong(t, changed(s, func(s *api.Sender) { s.Waits = waits(s.Config, s.Base+1, s.Next+1) }))
		if s.Base > 0 {
			wantWrong(t, changed(s, func(s *api.Sender) { s.Waits = waits(s.Config, s.Base-1, s.Next-1) }))
		}
	}
}

func TestWaitsOfOtherConfig(t *testing.T) { // P22.1: right Emits of a Config with another Bytes, or with fewer Passes
	s := made(plain(), 0, 3)
	for _, c := range []api.Config{with(plain(), func(c *api.Config) { c.Bytes = 3 }), with(plain(), func(c *api.Config) { c.Bytes = 1 }), with(plain(), func(c *api.Config) { c.Passes = 4 })} {
		wantWrong(t, changed(s, func(s *api.Sender) { s.Config = c }))
	}
	wantRight(t, changed(s, func(s *api.Sender) { s.Config.Passes = 6 }))
}

func TestConfirmed(t *testing.T) { // P22.1: Sent less how many Ends there are
	for _, x := range []struct {
		s    api.Sender
		want int
	}{
		{api.Sender{Config: plain()}, 0},
		{changed(made(plain(), 0, 2, 3, 6), func(s *api.Sender) { s.Sent = 3 }), 0},
		{changed(made(plain(), 0, 2, 3, 6), func(s *api.Sender) { s.Sent = 5 }), 2},
		{changed(made(plain(), 0, 2, 3, 6), func(s *api.Sender) { s.Sent, s.Closed = 6, true }), 3},
		{changed(made(plain(), 7), func(s *api.Sender) { s.Sent = 5 }), 5},
		{changed(made(greatest(), api.MaxSeq), func(s *api.Sender) { s.Sent = api.MaxSeq }), api.MaxSeq},
		{changed(made(plain(), 0, 2, 3, 6), func(s *api.Sender) { s.Sent = 2 }), 0},
		{changed(made(plain(), 0, 2, 3, 6), func(s *api.Sender) { s.Sent, s.Clock = 5, -1 }), 0},
		{api.Sender{Sent: 5, Next: 5, Base: 5}, 0},
	} {
		if got := send.Confirmed(x.s); got != x.want {
			t.Errorf("Confirmed(%+v) = %d, not %d", x.s, got, x.want)
		}
	}
}
