package recv_test

import (
	"bytes"
	"slices"
	"testing"

	"volute/api"
)

// blocks are those of a script: each with its mark and text, numbered from next on.
func blocks(c api.Config, next int, list ...api.Block) [][]byte {
	var l [][]byte
	for i, b := range list {
		l = append(l, blockBytes(c, next+i, b.Mark, b.Text))
	}
	return l
}

func of(mark int, part string) api.Block { return api.Block{Mark: mark, Text: []byte(part)} }

// allTold is r behind these blocks, from Next on; the first one comes last.
func allTold(t *testing.T, r api.Receiver, list ...api.Block) api.Receiver {
	t.Helper()
	l := blocks(r.Config, r.Next, list...)
	for i := len(l) - 1; i >= 0; i-- {
		r = wantTold(t, r, l[i])
	}
	return r
}

// wantState holds r to these numbers and messages, and to what is open; text tells it, if there is something.
func wantState(t *testing.T, r api.Receiver, next, told int, isOpen bool, held string, queue ...string) {
	t.Helper()
	var l []string
	for _, msg := range r.Queue {
		l = append(l, string(msg))
	}
	if r.Next != next || r.Told != told || r.Join.Open != isOpen || string(r.Join.Text) != held || !slices.Equal(l, queue) {
		t.Errorf("Next %d, Told %d, open %t with %q, Queue %q; not %d, %d, %t with %q, %q", r.Next, r.Told, r.Join.Open, r.Join.Text, l, next, told, isOpen, held, queue)
	}
	for i, h := range r.Hears {
		if h.Seq != r.Next+i {
			t.Error(i, h)
		}
	}
}

func TestOneMessage(t *testing.T) { // it goes on: a message of one block, of several, of no byte, each alone
	r := fresh(plain(), 3) // Told is 7
	wantState(t, allTold(t, r, of(3, "a")), 4, 8, false, "", "a")
	wantState(t, allTold(t, r, of(3, "ab")), 4, 8, false, "", "ab")
	wantState(t, allTold(t, r, of(3, "")), 4, 8, false, "", "")
	wantState(t, allTold(t, r, of(1, "ab")), 4, 7, true, "ab")
	wantState(t, allTold(t, r, of(1, "ab"), of(2, "c")), 5, 8, false, "", "abc")
	wantState(t, allTold(t, r, of(1, "ab"), of(2, "")), 5, 8, false, "", "ab")
	wantState(t, allTold(t, r, of(1, "ab"), of(0, "cd")), 5, 7, true, "abcd")
	wantState(t, allTold(t, r, of(1, "ab"), of(0, "cd"), of(2, "ef")), 6, 8, false, "", "abcdef")
	wantState(t, allTold(t, r, of(1, "ab"), of(0, "cd"), of(0, "ef"), of(2, "g")), 7, 8, false, "", "abcdefg")
}

func TestSeveralAtOnce(t *testing.T) { // it goes on: the first block is had last
	r := fresh(plain(), 3)
	wantState(t, allTold(t, r, of(3, "a"), of(3, "")), 5, 9, false, "", "a", "")
	wantState(t, allTold(t, r, of(3, "a"), of(1, "bc"), of(2, "")), 6, 9, false, "", "a", "bc")
	wantState(t, allTold(t, r, of(1, "ab"), of(2, "c"), of(1, "de"), of(2, "f")), 7, 9, false, "", "abc", "def")
	wantState(t, allTold(t, r, of(1, "ab"), of(2, "c"), of(1, "de"), of(0, "fg")), 7, 8, true, "defg", "abc")
}

func TestAsFarAsDone(t *testing.T) { // it goes on: not beyond one that is not Done
	r := had(fresh(plain(), 3), map[int]int{4: 3, 6: 3})
	next := wantTold(t, r, blockBytes(r.Config, 3, 3, []byte("a")))
	wantState(t, next, 5, 9, false, "", "a", string(partOf(r.Config, 4, 3)))
	if next.Hears[0].Done || !next.Hears[1].Done || next.Hears[2].Done || next.Hears[3].Done {
		t.Error(next)
	}
	wantState(t, wantTold(t, r, blockBytes(r.Config, 5, 3, []byte("a"))), 3, 7, false, "")
}

func TestNewHears(t *testing.T) { // it goes on: behind the others stand new ones, and those that were heard in part stay
	c := plain()
	part, _ := almost(t, c, blockBytes(c, 5, 0, text(2, 1)))
	r := had(changed(fresh(c, 3), func(r *api.Receiver) { r.Hears[2] = part }), map[int]int{4: 0, 6: 2})
	next := wantTold(t, r, blockBytes(c, 3, 3, []byte("a")))
	want := []api.Hear{part, r.Hears[3], unheard(c, 7), unheard(c, 8)}
	if !slices.EqualFunc(next.Hears, want, sameHear) {
		t.Error(next.Hears)
	}
}

func TestPartsWithoutMessage(t *testing.T) { // it goes on, by layer 21: blocks whose beginning is missing, or whose end
	r := fresh(plain(), 3)
	wantState(t, allTold(t, r, of(2, "x")), 4, 7, false, "")
	wantState(t, allTold(t, r, of(0, "xy"), of(2, "z")), 5, 7, false, "")
	wantState(t, allTold(t, r, of(0, "xy"), of(3, "z")), 5, 8, false, "", "z")
	wantState(t, allTold(t, r, of(1, "xy"), of(3, "z")), 5, 8, false, "", "z")
	wantState(t, allTold(t, r, of(1, "xy"), of(1, "zz"), of(2, "")), 6, 8, false, "", "zz")
	wantState(t, allTold(t, opened(r, 3), of(3, "z")), 4, 8, false, "", "z")
	wantState(t, allTold(t, opened(r, 3), of(1, "zz")), 4, 7, true, "zz")
}

func TestQueueHasRoomForOne(t *testing.T) { // it goes on: Qr - 1 messages wait; the next one has room, that behind it has none
	c := with(plain(), func(c *api.Config) { c.Qr = 3 })
	r := fresh(c, 3)
	r.Queue = [][]byte{[]byte("p"), []byte("q")}
	wantState(t, allTold(t, r, of(3, "a")), 4, 8, false, "", "p", "q", "a")
	wantState(t, allTold(t, r, of(3, "a"), of(3, "b")), 4, 8, false, "", "p", "q", "a")
	wantState(t, allTold(t, r, of(3, "a"), of(1, "bc"), of(0, "de"), of(2, "f")), 6, 8, true, "bcde", "p", "q", "a")
}

func TestQueueFull(t *testing.T) { // it stops: of a message that would be done; that block is had, but not done with
	r := fresh(plain(), 3)
	r.Queue = [][]byte{[]byte("p"), []byte("q")}
	next := allTold(t, r, of(3, "a"))
	wantState(t, next, 3, 7, false, "", "p", "q")
	wantReply(t, next, 1)
	next = allTold(t, r, of(3, "a"), of(3, "b"), of(1, "cd"), of(2, ""))
	wantState(t, next, 3, 7, false, "", "p", "q")
	wantReply(t, next, 15)
	next = allTold(t, r, of(1, "ab"), of(2, "c"))
	wantState(t, next, 4, 7, true, "ab", "p", "q")
	wantReply(t, next, 1)
	wantState(t, allTold(t, opened(r, 0), of(2, "c")), 3, 7, true, "", "p", "q")
	wantState(t, allTold(t, opened(r, 0), of(3, "c")), 3, 7, true, "", "p", "q")
}

func TestQueueFullButNoEnd(t *testing.T) { // it goes on: a block that ends no message needs no room, one with Last of no message neither
	r := fresh(plain(), 3)
	r.Queue = [][]byte{[]byte("p"), []byte("q")}
	wantState(t, allTold(t, r, of(1, "ab")), 4, 7, true, "ab", "p", "q")
	wantState(t, allTold(t, r, of(1, "ab"), of(0, "cd"), of(1, "ef")), 6, 7, true, "ef", "p", "q")
	wantState(t, allTold(t, r, of(0, "ab"), of(2, "c"), of(2, "d")), 6, 7, false, "", "p", "q")
	wantState(t, allTold(t, r, of(2, "x"), of(3, "y")), 4, 7, false, "", "p", "q")
}

func TestJoinRefuses(t *testing.T) { // it goes on: an error of join.Take counts as nothing done: Join is as it was, and the block is done with
	r := opened(fresh(plain(), 3), api.MaxBytes-1)
	held := string(r.Join.Text)
	wantState(t, allTold(t, r, of(0, "ab")), 4, 7, true, held)
	wantState(t, allTold(t, r, of(2, "ab")), 4, 7, true, held)
	wantState(t, allTold(t, r, of(2, "ab"), of(0, "cd"), of(2, "e")), 6, 8, false, "", held+"e")
	wantState(t, allTold(t, r, of(0, "ab"), of(2, "")), 5, 8, false, "", held)
	wantState(t, allTold(t, r, of(0, "ab"), of(1, "cd"), of(2, "")), 6, 8, false, "", "cd")
	wantState(t, allTold(t, r, of(2, "a")), 4, 8, false, "", held+"a")
	full := opened(fresh(plain(), 3), api.MaxBytes)
	wantState(t, allTold(t, full, of(2, "a")), 4, 7, true, string(full.Join.Text))
	wantState(t, allTold(t, full, of(2, "")), 4, 8, false, "", string(full.Join.Text))
	wantState(t, allTold(t, full, of(3, "a")), 4, 8, false, "", "a")
}

func TestJoinWouldRefuseButQueueFull(t *testing.T) { // it stops, ahead of asking join.Take: join.Ends alone tells that the message would be done
	r := opened(fresh(plain(), 3), api.MaxBytes-1)
	r.Queue = [][]byte{[]byte("p"), []byte("q")}
	next := allTold(t, r, of(2, "ab"))
	wantState(t, next, 3, 7, true, string(r.Join.Text), "p", "q")
	next, _ = wantReceived(t, next, api.OK)
	wantState(t, next, 4, 7, true, string(r.Join.Text), "q")
	wantState(t, allTold(t, r, of(0, "ab")), 4, 7, true, string(r.Join.Text), "p", "q") // it would end nothing
}

func TestTold(t *testing.T) { // it goes on: Told is one more with each message; it stays at MaxCount, and the messages are told all the same
	for _, x := range [][2]int{{0, 2}, {5, 7}, {api.MaxCount - 3, api.MaxCount - 1}, {api.MaxCount - 2, api.MaxCount}, {api.MaxCount - 1, api.MaxCount}, {api.MaxCount, api.MaxCount}} {
		r := fresh(plain(), 3)
		r.Told = x[0]
		next := allTold(t, r, of(3, "a"), of(1, "bc"), of(2, "d"))
		wantState(t, next, 6, x[1], false, "", "a", "bcd")
		if next.Clock != r.Clock || next.Bad != r.Bad {
			t.Error(next)
		}
	}
}

func TestGreatestBlocks(t *testing.T) { // it goes on: the greatest Window and Queue, all at once, with blocks of the greatest size
	c := with(greatest(), func(c *api.Config) { c.Depth, c.Passes = 1, 4 })
	marks := map[int]int{}
	for i := range c.Window {
		marks[9+i] = 3
	}
	delete(marks, 9)
	next := wantTold(t, had(fresh(c, 9), marks), blockBytes(c, 9, 3, text(16, 1)))
	if next.Next != 9+16 || len(next.Queue) != 16 || next.Told != 7+16 || len(next.Join.Text) != 0 {
		t.Error(next)
	}
	next = wantTold(t, had(queued(fresh(c, 9), 1), marks), blockBytes(c, 9, 3, text(16, 1)))
	if next.Next != 9+15 || len(next.Queue) != 16 || next.Told != 7+15 || !next.Hears[0].Done {
		t.Error(next)
	}
}

// marks4 are all lists of what four blocks of a window are: not Done, or of that mark.
func marks4() []map[int]int {
	var list []map[int]int
	for code := range 5 * 5 * 5 * 5 {
		l := map[int]int{}
		for i := range 4 {
			if code%5 < 4 {
				l[3+i] = code % 5
			}
			code /= 5
		}
		list = append(list, l)
	}
	return list
}

func TestEveryWindow(t *testing.T) { // it goes on: each of the four blocks told or not, of each mark, behind a Receive; each number of messages that wait, a message open or none
	for _, marks := range marks4() {
		for n := range 4 {
			r := had(queued(fresh(with(plain(), func(c *api.Config) { c.Qr = 3 }), 3), n), marks)
			for _, r := range []api.Receiver{r, opened(r, 5)} {
				e := api.OK
				if n == 0 {
					e = api.ErrEmpty
				}
				next, _ := wantReceived(t, r, e)
				wantNothingDropped(t, r, next)
				wantReply(t, next, bitsByText(next))
			}
		}
	}
}

func TestEveryWindowBehindTake(t *testing.T) { // it goes on: likewise behind a Take of the block that was missing; all that stands behind it stays
	for _, marks := range marks4() {
		mark, isDone := marks[3]
		if !isDone {
			continue
		}
		delete(marks, 3)
		for n := range 3 {
			r := had(queued(fresh(plain(), 3), n), marks)
			for _, r := range []api.Receiver{r, opened(r, 5)} {
				next := wantTold(t, r, blockBytes(r.Config, 3, mark, partOf(r.Config, 3, mark)))
				if len(next.Queue) > r.Config.Qr || !slices.EqualFunc(next.Queue[:n], r.Queue, bytes.Equal) {
					t.Fatal(r, next)
				}
			}
		}
	}
}

func TestEveryWindowBehindTakeOfNothing(t *testing.T) { // it goes on: likewise behind a Take that accepts nothing, of each of the blocks
	for _, marks := range marks4() {
		for n := range 3 {
			r := had(queued(fresh(plain(), 3), n), marks)
			for _, r := range []api.Receiver{r, opened(r, 5)} {
				for i := range r.Hears {
					next, told := wantTook(t, r, api.Data{Seq: 3 + i, Round: 9, From: 200, Syms: text(5, 1)}, api.OK)
					if len(told) != 0 || len(next.Queue) > r.Config.Qr || !slices.EqualFunc(next.Queue[:n], r.Queue, bytes.Equal) {
						t.Fatal(r, next, told)
					}
				}
			}
		}
	}
}

// wantNothingDropped holds next to be r without at most the first message that waits, and with others behind the rest (P23.4).
func wantNothingDropped(t *testing.T, r, next api.Receiver) {
	t.Helper()
	rest := r.Queue[min(1, len(r.Queue)):]
	if len(next.Queue) > next.Config.Qr || len(next.Queue) < len(rest) || !slices.EqualFunc(next.Queue[:len(rest)], rest, bytes.Equal) || next.Told-r.Told != len(next.Queue)-len(rest) {
		t.Fatalf("%+v, behind a Receive %+v", r, next)
	}
}
