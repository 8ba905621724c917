package join_test

import (
	"bytes"
	"strings"
	"testing"

	"volute/api"
)

func TestExample(t *testing.T) { // P21.2, the chapter's example
	wantDone(t, api.Join{}, api.Block{Mark: api.First | api.Last, Text: []byte("x")}, "x")
}

func TestWrittenOut(t *testing.T) { // P21.2: every mark, open and not, with a Text and without
	closed, opened, blank := api.Join{}, api.Join{Open: true, Text: []byte("ab")}, api.Join{Open: true}
	bare := func(mark int) api.Block { return api.Block{Mark: mark} }
	full := func(mark int) api.Block { return api.Block{Mark: mark, Text: []byte("cde")} }

	wantNone(t, closed, bare(0), api.OK)
	wantNone(t, closed, full(0), api.OK)
	wantOpen(t, closed, bare(1), "")
	wantOpen(t, closed, full(1), "cde")
	wantNone(t, closed, bare(2), api.OK)
	wantNone(t, closed, full(2), api.OK)
	wantDone(t, closed, bare(3), "")
	wantDone(t, closed, full(3), "cde")

	wantOpen(t, opened, bare(0), "ab")
	wantOpen(t, opened, full(0), "abcde")
	wantOpen(t, opened, bare(1), "")
	wantOpen(t, opened, full(1), "cde")
	wantDone(t, opened, bare(2), "ab")
	wantDone(t, opened, full(2), "abcde")
	wantDone(t, opened, bare(3), "")
	wantDone(t, opened, full(3), "cde")

	wantOpen(t, blank, bare(0), "")
	wantOpen(t, blank, full(0), "cde")
	wantOpen(t, blank, bare(1), "")
	wantOpen(t, blank, full(1), "cde")
	wantDone(t, blank, bare(2), "")
	wantDone(t, blank, full(2), "cde")
	wantDone(t, blank, bare(3), "")
	wantDone(t, blank, full(3), "cde")
}

func TestEdges(t *testing.T) { // P21.2: Joins at their edges, every mark, every length of a block's Text
	for _, j := range rightJoins() {
		for mark := range 4 {
			for n := range api.MaxBlock + 1 {
				wantAnswer(t, j, part(mark, n), byText(j, part(mark, n)))
			}
		}
	}
}

func TestTogether(t *testing.T) { // P21.2, R4: both together are MaxBytes - 1, MaxBytes and MaxBytes + 1
	for n := range api.MaxBlock + 1 {
		for _, sum := range []int{api.MaxBytes - 1, api.MaxBytes, api.MaxBytes + 1} {
			j := api.Join{Open: true, Text: bytes.Repeat([]byte("h"), min(sum-n, api.MaxBytes))}
			more := api.Block{Text: bytes.Repeat([]byte("t"), n)}
			last := more
			last.Mark = api.Last
			want := string(j.Text) + strings.Repeat("t", n)
			if len(want) > api.MaxBytes {
				wantNone(t, j, more, api.ErrLen)
				wantNone(t, j, last, api.ErrLen)
				continue
			}
			wantOpen(t, j, more, want)
			wantDone(t, j, last, want)
		}
	}
}

func TestFirstDropsWhatWasOpen(t *testing.T) { // P21.2: what was open is not counted either
	for _, held := range []int{0, 1, 200, api.MaxBytes - 16, api.MaxBytes - 1, api.MaxBytes} {
		for _, msg := range []string{"", "x", strings.Repeat("y", api.MaxBlock-1), strings.Repeat("z", api.MaxBlock)} {
			wantOpen(t, open(held), api.Block{Mark: api.First, Text: []byte(msg)}, msg)
			wantDone(t, open(held), api.Block{Mark: api.First | api.Last, Text: []byte(msg)}, msg)
		}
	}
}

func TestNothingOpen(t *testing.T) { // P21.2: a block without First changes nothing, with Last and without
	for _, j := range []api.Join{{}, {Text: []byte{}}, {Text: text(9, 1)[:0]}} {
		for n := range api.MaxBlock + 1 {
			wantNone(t, j, part(0, n), api.OK)
			wantNone(t, j, part(api.Last, n), api.OK)
		}
	}
}

func TestJoinWrong(t *testing.T) { // P21.2, R4: whatever the block is, one that would drop what was open too
	for _, j := range wrongJoins() {
		for mark := range 4 {
			for n := range api.MaxBlock + 1 {
				wantNone(t, j, part(mark, n), api.ErrArg)
			}
		}
	}
}

func TestMarkWrong(t *testing.T) { // P21.2, R1, R4: below 0, above 3, the ends of the ints
	for _, j := range rightJoins() {
		for _, mark := range noMarks {
			for _, n := range []int{0, 1, api.MaxBlock - 1, api.MaxBlock} {
				wantNone(t, j, part(mark, n), api.ErrArg)
			}
		}
	}
}

func TestTextWrong(t *testing.T) { // P21.2, R4: every mark, whether the block would change something or not
	for _, j := range rightJoins() {
		for mark := range 4 {
			for _, n := range noTexts {
				wantNone(t, j, part(mark, n), api.ErrLen)
			}
		}
	}
}

func TestOrderOfErrors(t *testing.T) { // P21.2, R4: ErrArg ahead of ErrLen
	for _, n := range noTexts {
		for _, j := range wrongJoins() {
			wantNone(t, j, part(0, n), api.ErrArg)
			wantNone(t, j, part(3, n), api.ErrArg)
			wantNone(t, j, part(4, n), api.ErrArg)
		}
		for _, mark := range noMarks {
			wantNone(t, api.Join{}, part(mark, n), api.ErrArg)
			wantNone(t, open(3), part(mark, n), api.ErrArg)
			wantNone(t, open(api.MaxBytes), part(mark, n), api.ErrArg)
		}
	}
	for _, mark := range noMarks { // both together would be too long
		wantNone(t, open(api.MaxBytes), part(mark, 1), api.ErrArg)
	}
	wantNone(t, open(api.MaxBytes+1), part(0, 1), api.ErrArg)
}

func TestSeqDoesNotMatter(t *testing.T) { // P21.2: no number is asked for
	for _, seq := range seqs {
		for mark := range 4 {
			for _, j := range []api.Join{{}, open(0), open(5), open(api.MaxBytes)} {
				b := part(mark, 4)
				b.Seq = seq
				wantAnswer(t, j, b, byText(j, b))
			}
		}
	}
}

func TestBytesStay(t *testing.T) { // P21.2: noughts and all other bytes are kept as they are
	for x := range 256 {
		b := []byte{byte(x), 0, byte(x)}
		j := api.Join{Open: true, Text: []byte{0, byte(x), 0}}
		wantOpen(t, j, api.Block{Text: b}, string(j.Text)+string(b))
		wantDone(t, j, api.Block{Mark: api.Last, Text: b}, string(j.Text)+string(b))
	}
}
