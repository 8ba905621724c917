package recv_test

import (
	"bytes"
	"encoding/hex"
	"testing"

	"volute/api"
	"volute/recv"
)

func TestExample(t *testing.T) { // the chapter's example: a new one's Reply: Next 0, no bits
	for _, c := range []api.Config{plain(), least(), greatest()} {
		r, e := recv.New(c)
		next, packet, f := recv.Reply(r)
		if !bytes.Equal(packet, fromHex(t, "410000000000000000ea03e02f")) || next.Clock != 1 || next.Next != 0 || e != api.OK || f != api.OK {
			t.Errorf("%+v: %x, %+v, %d, %d", c, packet, next, e, f)
		}
	}
}

func fromHex(t *testing.T, digits string) []byte {
	t.Helper()
	b, e := hex.DecodeString(digits)
	if e != nil {
		t.Fatal(e)
	}
	return b
}

// hand is a Receiver that is handed packets in hexadecimal digits.
type hand struct {
	t *testing.T
	r api.Receiver
}

// take hands over a packet, with the block that is to be told, if one is.
func (h *hand) take(packet, block string) {
	h.t.Helper()
	next, had, e := recv.Take(h.r, fromHex(h.t, packet))
	if !bytes.Equal(had, fromHex(h.t, block)) || e != api.OK {
		h.t.Errorf("%s: %x, %d, not %s", packet, had, e, block)
	}
	h.r = next
}

func (h *hand) reply(want string) {
	h.t.Helper()
	next, packet, e := recv.Reply(h.r)
	if !bytes.Equal(packet, fromHex(h.t, want)) || e != api.OK {
		h.t.Errorf("%x, %d, not %s", packet, e, want)
	}
	h.r = next
}

func (h *hand) receive(want string) {
	h.t.Helper()
	next, msg, e := recv.Receive(h.r)
	if string(msg) != want || e != api.OK {
		h.t.Errorf("%q, %d, not %q", msg, e, want)
	}
	h.r = next
}

func TestKnown(t *testing.T) { // P23.2, P23.3: packets, blocks and replies worked out apart from this project: "abc" of two blocks, a message of no byte, "volute" of three; the Window has three, the Queue room for two
	r, e := recv.New(with(plain(), func(c *api.Config) { c.Window, c.Passes = 3, 4 }))
	if e != api.OK {
		t.Fatal(e)
	}
	h := &hand{t, r}
	h.reply("410000000000000000ea03e02f") // Next 0
	h.take("440000000109000020a60052475c11d7a4546631c52606f1566ff3831b5e5999850658e56f3f75d07cb538", "0000000102016300016c59bd")
	h.reply("410000000000000002c662eec1") // Next 0, the block 1
	h.take("44000000020900002048d25267791139db5467e7c5704bf13709f346135e994877ae11e53a74752cc4b5c3", "0000000203000000e723570d")
	h.reply("410000000000000006dfa683c6") // Next 0, the blocks 1 and 2
	h.take("4400000000090000200c5152aae2111cf6543b35c514ebf1d725f314305e9d3fb59959e582417528b8b542", "0000000001026162f0364001")
	h.reply("4100000003000000003a794068") // Next 3
	h.take("440000000409000020855752b9e711d187547679c535def17e34f36cdd5ec876377377e5d9f775b128b5a0", "")
	h.reply("4100000003000000003a794068")
	h.take("44000000040900202083b112d89a13808d097ade039e4670baa8b1fc5cd8aafe884f62c4c45a6d6f6cef72", "0000000400026c75df0c017a")
	h.reply("41000000030000000216184e86") // Next 3, the block 4
	h.take("440000000309000020e28352473e11cbe4542ca5c5f73cf11f1af324e95ef0d8fcbf41e584a4750a80b571", "000000030102766f0bb4d23d")
	h.reply("4100000005000000009a8c00e7") // Next 5
	h.take("4400000005090000202f065292fc110d655422b8c50739f1109df3b2965ef7cbc2e6c3e5bc0275c29cb501", "0000000502027465d965c472")
	h.reply("4100000005000000010cbc0790") // Next 5, the block 5: the Queue is full
	if h.r.Told != 2 || !h.r.Join.Open || string(h.r.Join.Text) != "volu" {
		t.Error(h.r)
	}
	h.receive("abc")
	h.reply("4100000006000000004af6a0a0") // Next 6
	h.receive("")
	h.receive("volute")
	if _, msg, e := recv.Receive(h.r); len(msg) != 0 || e != api.ErrEmpty {
		t.Error(msg, e)
	}
	if h.r.Clock != 9 || h.r.Bad != 0 || h.r.Told != 3 || h.r.Next != 6 || h.r.Join.Open {
		t.Error(h.r)
	}
}
