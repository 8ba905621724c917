package recv_test

import (
	"slices"
	"testing"

	"volute/api"
)

func TestReceiveEmpty(t *testing.T) { // P23.3, R4: ErrEmpty; beside it r is told, whatever it is, and there is no message
	for _, r := range rightReceivers(t) {
		r.Queue = nil
		for _, queue := range [][][]byte{nil, {}, make([][]byte, 3)[:0]} {
			r.Queue = queue
			next, msg := wantReceived(t, r, api.ErrEmpty)
			if !same(next, r) || len(msg) != 0 {
				t.Error(r, next, msg)
			}
		}
	}
}

func TestReceiveEmptyGoesNowhere(t *testing.T) { // P23.3: beside the error r is told as it was, even one that could go on, as no call leaves it
	r := had(opened(fresh(plain(), 3), 5), map[int]int{3: 2, 4: 3})
	next, _ := wantReceived(t, r, api.ErrEmpty)
	wantState(t, next, 3, 7, true, string(r.Join.Text))
}

func TestReceive(t *testing.T) { // P23.3: each edge of a Receiver, to the end of its Queue
	for _, r := range rightReceivers(t) {
		for len(r.Queue) > 0 {
			r, _ = wantReceived(t, r, api.OK)
		}
		wantReceived(t, r, api.ErrEmpty)
	}
}

func TestReceiveOne(t *testing.T) { // P23.3: a message of each length that matters; it is gone, and nothing else changes
	for _, n := range []int{0, 1, 2, 9, 10, api.MaxMsg, api.MaxBytes - 1, api.MaxBytes} {
		r := fresh(plain(), 3)
		r.Queue = [][]byte{text(n, 1)}
		next, msg := wantReceived(t, r, api.OK)
		if len(msg) != n || len(next.Queue) != 0 || !same(next, fresh(plain(), 3)) {
			t.Error(n, next, msg)
		}
	}
}

func TestReceiveInOrder(t *testing.T) { // P23.3: the first of the Queue, again and again
	for n := 1; n <= api.MaxQueue; n++ {
		r := queued(fresh(with(plain(), func(c *api.Config) { c.Qr = n }), 3), n)
		for k := range n {
			next, msg := wantReceived(t, r, api.OK)
			if !slices.Equal(msg, text(3*k, k)) || len(next.Queue) != n-k-1 || next.Told != 7 || next.Clock != 5 || next.Bad != 6 {
				t.Error(n, k, msg, next)
			}
			r = next
		}
	}
}

func TestReceiveOfFull(t *testing.T) { // P23.3: a full Queue behind which several messages wait: with each that is taken out one more is put together
	c := with(plain(), func(c *api.Config) { c.Window = 6 })
	r := fresh(c, 3)
	r.Queue = [][]byte{[]byte("p"), []byte("q")}
	r = allTold(t, r, of(1, "ab"), of(2, "c"), of(3, ""), of(0, "zz"), of(1, "de"), of(2, "f"))
	wantState(t, r, 4, 7, true, "ab", "p", "q")
	wantReply(t, r, 0b11111)
	for _, x := range []struct {
		msg        string
		next, told int
		bits       uint32
		isOpen     bool
		held       string
		queue      []string
	}{
		{"p", 5, 8, 0b1111, false, "", []string{"q", "abc"}},
		{"q", 8, 9, 0b1, true, "de", []string{"abc", ""}},
		{"abc", 9, 10, 0, false, "", []string{"", "def"}},
		{"", 9, 10, 0, false, "", []string{"def"}},
		{"def", 9, 10, 0, false, "", nil},
	} {
		next, msg := wantReceived(t, r, api.OK)
		if string(msg) != x.msg {
			t.Errorf("%q, not %q", msg, x.msg)
		}
		wantState(t, next, x.next, x.told, x.isOpen, x.held, x.queue...)
		wantReply(t, next, x.bits)
		r = next
	}
	wantReceived(t, r, api.ErrEmpty)
}

func TestReceiveOfQueueOfOne(t *testing.T) { // P23.3: Qr 1: one out, one in
	c := with(plain(), func(c *api.Config) { c.Qr = 1 })
	r := allTold(t, fresh(c, 3), of(3, "a"), of(3, "b"), of(3, ""), of(3, "d"))
	wantState(t, r, 4, 8, false, "", "a")
	for i, want := range []string{"a", "b", ""} {
		next, msg := wantReceived(t, r, api.OK)
		if string(msg) != want {
			t.Errorf("%q, not %q", msg, want)
		}
		wantState(t, next, 5+i, 9+i, false, "", []string{"b", "", "d"}[i])
		r = next
	}
}

func TestReceiveAtToldMax(t *testing.T) { // P23.3: Told stays at MaxCount, behind a Receive too
	for _, told := range []int{api.MaxCount - 2, api.MaxCount - 1, api.MaxCount} {
		r := had(queued(fresh(plain(), 3), 2), map[int]int{3: 3})
		r.Told = told
		next, _ := wantReceived(t, r, api.OK)
		if next.Told != min(told+1, api.MaxCount) || len(next.Queue) != 2 || next.Next != 4 {
			t.Error(next)
		}
	}
}

func TestReceiveAtNextMax(t *testing.T) { // P23.3: Next goes on up to MaxSeq, behind a Receive too
	r := had(queued(fresh(plain(), api.MaxSeq-2), 2), map[int]int{api.MaxSeq - 2: 3, api.MaxSeq - 1: 3})
	r, _ = wantReceived(t, r, api.OK)
	if r.Next != api.MaxSeq-1 {
		t.Error(r)
	}
	wantReply(t, r, 1)
	r, _ = wantReceived(t, r, api.OK)
	if r.Next != api.MaxSeq || r.Hears[3].Seq != api.MaxSeq+3 {
		t.Error(r)
	}
	wantReply(t, r, 0)
}
