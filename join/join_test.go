package join_test

import (
	"bytes"
	"math"
	"testing"

	"volute/api"
	"volute/join"
)

var (
	// Marks that may not be, some of them ones that may be in their lowest bits.
	noMarks = []int{-1, -2, -3, -4, 4, 5, 6, 7, 8, 255, 256, 257, 1<<32 + 1, 1<<32 + 3, -1 << 32, 3 - 1<<32, 1 << 62, math.MaxInt, math.MaxInt - 1, math.MinInt, math.MinInt + 1, math.MinInt + 3}

	// Lengths of a block's Text that may not be.
	noTexts = []int{api.MaxBlock + 1, api.MaxBlock + 2, 2 * api.MaxBlock, 255, 256, api.MaxBytes, api.MaxBytes + 1, 1<<16 + 1}

	// Numbers that a block may have, and that it may not.
	seqs = []int{0, 1, api.MaxSeq - 1, api.MaxSeq, -1, math.MaxInt, math.MinInt}
)

// text is n bytes, others for each seed; no two that are beside each other are the same.
func text(n, seed int) []byte {
	b := make([]byte, n)
	for i := range b {
		b[i] = byte(i*151 + seed*29 + i>>4)
	}
	return b
}

// open is a Join that is being put together, of n bytes.
func open(n int) api.Join { return api.Join{Open: true, Text: text(n, 1)} }

// part is a block of n bytes, none of those that stand in an open one.
func part(mark, n int) api.Block { return api.Block{Seq: 7, Mark: mark, Text: text(n, 2)} }

// rightJoins are Joins at their edges: closed, and open with each length that matters.
func rightJoins() []api.Join {
	list := []api.Join{{}, {Text: []byte{}}, {Open: true}}
	for _, n := range []int{0, 1, 2, 15, 16, 17, 199, 200, 201, api.MaxBytes / 2} {
		list = append(list, open(n))
	}
	for n := api.MaxBytes - api.MaxBlock - 2; n <= api.MaxBytes; n++ {
		list = append(list, open(n))
	}
	return list
}

// wrongJoins are Joins that are too long, or that have a Text and are not Open.
func wrongJoins() []api.Join {
	var list []api.Join
	for _, n := range []int{api.MaxBytes + 1, api.MaxBytes + 2, 2 * api.MaxBytes, 1<<16 + 1} {
		list = append(list, open(n), api.Join{Text: text(n, 1)})
	}
	for _, n := range []int{1, 2, 16, 17, 256, api.MaxBytes - 1, api.MaxBytes} {
		list = append(list, api.Join{Text: text(n, 1)})
	}
	return list
}

// answer is what a Take answers.
type answer struct {
	next api.Join
	msg  []byte
	done bool
	e    api.Errno
}

func take(j api.Join, b api.Block) answer {
	next, msg, done, e := join.Take(j, b)
	return answer{next, msg, done, e}
}

func (a answer) same(b answer) bool {
	return a.next.Open == b.next.Open && bytes.Equal(a.next.Text, b.next.Text) && bytes.Equal(a.msg, b.msg) && a.done == b.done && a.e == b.e
}

// byText is what the chapter says of right arguments: mark by mark, and byte by byte.
func byText(j api.Join, b api.Block) answer {
	isFirst := b.Mark == 1 || b.Mark == 3
	isLast := b.Mark == 2 || b.Mark == 3
	var held []byte
	switch {
	case isFirst:
	case j.Open:
		for _, x := range j.Text {
			held = append(held, x)
		}
	default:
		return answer{}
	}
	for _, x := range b.Text {
		if len(held) == api.MaxBytes {
			return answer{e: api.ErrLen}
		}
		held = append(held, x)
	}
	if isLast {
		return answer{msg: held, done: true}
	}
	return answer{next: api.Join{Open: true, Text: held}}
}

func wantAnswer(t *testing.T, j api.Join, b api.Block, want answer) {
	t.Helper()
	if got := take(j, b); !got.same(want) {
		t.Errorf("Take(open %t, of %d bytes; mark %d, of %d bytes) = %+v, not %+v", j.Open, len(j.Text), b.Mark, len(b.Text), got, want)
	}
}

func wantOpen(t *testing.T, j api.Join, b api.Block, held string) {
	t.Helper()
	wantAnswer(t, j, b, answer{next: api.Join{Open: true, Text: []byte(held)}})
}

func wantDone(t *testing.T, j api.Join, b api.Block, msg string) {
	t.Helper()
	wantAnswer(t, j, b, answer{msg: []byte(msg), done: true})
}

func wantNone(t *testing.T, j api.Join, b api.Block, e api.Errno) {
	t.Helper()
	wantAnswer(t, j, b, answer{e: e})
}

func wantEnds(t *testing.T, j api.Join, b api.Block, want bool) {
	t.Helper()
	if got := join.Ends(j, b); got != want {
		t.Errorf("Ends(open %t, of %d bytes; mark %d, of %d bytes) = %t", j.Open, len(j.Text), b.Mark, len(b.Text), got)
	}
}
