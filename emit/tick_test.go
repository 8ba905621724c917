package emit_test

import (
	"bytes"
	"encoding/hex"
	"testing"

	"volute/api"
	"volute/conf"
	"volute/data"
	"volute/emit"
)

// byText is chapter 18's text of Tick, of an Emit that is right and not acked, whose round has the symbols row.
func byText(t *testing.T, c api.Config, e api.Emit, row []byte) (next api.Emit, packet []byte) {
	t.Helper()
	next = e
	if next.From == len(row) {
		next.From = 0
		next.Round++
		if next.Round == 256 {
			next.Round = 0
		}
	}
	end := next.From + c.Batch
	if end > len(row) {
		end = len(row)
	}
	packet, err := data.Make(api.Data{Seq: e.Seq, Round: next.Round, From: next.From, Syms: row[next.From:end]})
	if err != api.OK {
		t.Fatal(c, e, err)
	}
	next.From = end
	return next, packet
}

func TestExample(t *testing.T) { // example 1: symbols 0 to 3; From 4
	c := sized(4, 10, 4)
	b := blockOf(c, 1)
	e, err := emit.New(c, 5, b)
	if err != api.OK {
		t.Fatal(err)
	}
	next, packet, err := emit.Tick(c, e)
	if next.From != 4 || next.Round != 0 || next.Seq != 5 || next.Acked || !bytes.Equal(next.Bytes, b) || err != api.OK {
		t.Error(next, err)
	}
	d, err := data.Read(packet)
	if d.Seq != 5 || d.Round != 0 || d.From != 0 || !bytes.Equal(d.Syms, rowOf(t, c, b)[:4]) || err != api.OK {
		t.Error(d, err)
	}
}

func TestTickKnown(t *testing.T) { // P18.2: worked out apart from this project
	for _, k := range []struct {
		size, passes, batch int
		text                string
		seq, round, from    int
		nextRound, nextFrom int
		packet              string
	}{
		{4, 4, 4, "\x00\x00\x00\x00\x00\x00\x00\x00\x00\x00\x00\x00\x00\x00", 0, 0, 0, 0, 4, "4400000000000000049bc052aa39fc"},
		{1, 4, 16, "eleven byte", 7, 0, 0, 0, 16, "440000000700000010aea1392e0a5f1ef5bc735d48e27f3eda8009"},
		{1, 4, 16, "eleven byte", 7, 254, 80, 254, 88, "4400000007fe0050080e301b134fa51a7e4c9d"},
		{1, 4, 16, "eleven byte", 7, 254, 88, 255, 16, "4400000007ff000010e502392e0a5f1ef5bc735d48e27f3eda8009"},
		{1, 4, 16, "eleven byte", 7, 255, 88, 0, 16, "440000000700000010aea1392e0a5f1ef5bc735d48e27f3eda8009"},
		{1, 5, 16, "eleven byte", 7, 9, 88, 9, 104, "440000000709005810dac01178ca76ff970347c18a8518bf6f600e"},
		{4, 10, 9, "fourteen bytes", 16909060, 200, 100, 200, 109, "4401020304c8006409db324da562f15f3d6d9d23"},
		{4, 10, 9, "fourteen bytes", 16909060, 200, 275, 200, 280, "4401020304c8011305bc407b7b3ea3c2"},
		{4, 10, 9, "fourteen bytes", 16909060, 200, 280, 201, 9, "4401020304c90000096a683981901c3625c4b89c"},
		{16, 16, 64, "twenty-six bytes of a bloc", 1073741823, 255, 768, 255, 832, "443fffffffff030040b50c5ac0fcecd52aa694cacd3f3883e4757624b4d2edda78032f708645b34f09efb9a14f3e4eb5c229121778c54ba0c247d64bd267e54824d3d556ba9536985e1c9b"},
		{16, 16, 64, "twenty-six bytes of a bloc", 1073741823, 255, 769, 255, 832, "443fffffffff03013f0945c0fcecd52aa694cacd3f3883e4757624b4d2edda78032f708645b34f09efb9a14f3e4eb5c229121778c54ba0c247d64bd267e54824d3d556ba9536985e1c9b"},
		{16, 16, 1, "twenty-six bytes of a bloc", 256, 3, 831, 3, 832, "440000010003033f0159e29b"},
		{16, 16, 1, "twenty-six bytes of a bloc", 256, 3, 832, 4, 1, "440000010004000001443486"},
	} {
		packet, err := hex.DecodeString(k.packet)
		if err != nil {
			t.Fatal(err)
		}
		c := sized(k.size, k.passes, k.batch)
		e := api.Emit{Seq: k.seq, Round: k.round, From: k.from, Bytes: []byte(k.text)}
		next := api.Emit{Seq: k.seq, Round: k.nextRound, From: k.nextFrom, Bytes: []byte(k.text)}
		wantTick(t, c, e, next, packet)
	}
}

func TestTick(t *testing.T) { // P18.2: edges of each number beside those of each other one
	for k, c := range configs() {
		b := blockOf(c, k)
		row := rowOf(t, c, b)
		for _, seq := range []int{0, 0x01020304, api.MaxSeq - 1} {
			for _, round := range edgeRounds {
				for _, from := range edgeFroms(c) {
					e := api.Emit{Seq: seq, Round: round, From: from, Bytes: b}
					next, packet := byText(t, c, e, row)
					wantTick(t, c, e, next, packet)
				}
			}
		}
	}
}

func TestTickFromEachPlace(t *testing.T) { // P18.2: whether it is a multiple of Batch or not
	for _, c := range []api.Config{plain(), sized(1, 4, 64), sized(6, 5, 13), sized(16, 16, 63), sized(16, 16, 1)} {
		b := blockOf(c, 5)
		row := rowOf(t, c, b)
		for from := range most(c) + 1 {
			e := api.Emit{Seq: 5, Round: 255, From: from, Bytes: b}
			next, packet := byText(t, c, e, row)
			wantTick(t, c, e, next, packet)
		}
	}
}

func TestTickOfEachRound(t *testing.T) { // P18.2: within a round its number stays; behind it it is one more, behind 255 it is 0
	c := plain()
	b := blockOf(c, 6)
	n := most(c)
	for round := range 256 {
		for from, want := range map[int]api.Emit{
			0:     {Round: round, From: 9},
			n - 1: {Round: round, From: n},
			n:     {Round: (round + 1) % 256, From: 9},
		} {
			next, packet, err := emit.Tick(c, api.Emit{Round: round, From: from, Bytes: b})
			want.Bytes = b
			if !same(next, want) || err != api.OK {
				t.Errorf("%d, %d: %v, %d", round, from, next, err)
			}
			if d, err := data.Read(packet); d.Round != want.Round || d.From != from%n || err != api.OK {
				t.Errorf("%d, %d: %v, %d", round, from, d, err)
			}
		}
	}
}

func TestLastPacketIsOfOneRound(t *testing.T) { // P18.2: as many as are left up to Most, for each number that may be left
	c := sized(4, 10, api.MaxBatch)
	b := blockOf(c, 7)
	row := rowOf(t, c, b)
	for left := 1; left <= api.MaxBatch; left++ {
		next, packet, err := emit.Tick(c, api.Emit{Seq: 3, Round: 4, From: most(c) - left, Bytes: b})
		if next.From != most(c) || next.Round != 4 || err != api.OK {
			t.Error(left, next, err)
		}
		if d, err := data.Read(packet); !bytes.Equal(d.Syms, row[len(row)-left:]) || err != api.OK {
			t.Error(left, d, err)
		}
	}
}

func TestPassesBoundTheRound(t *testing.T) { // P18.2: symbols of later passes are not sent, though there are some
	for passes := 4; passes < api.MaxPasses; passes++ {
		c := sized(2, passes, 10)
		b := blockOf(c, passes)
		e := api.Emit{Seq: 1, Round: 2, From: most(c), Bytes: b}
		next, packet := byText(t, c, e, rowOf(t, c, b))
		if next.Round != 3 || next.From != 10 {
			t.Fatal(next)
		}
		wantTick(t, c, e, next, packet)
	}
}

func TestAcked(t *testing.T) { // P18.2: it stays as it is, at the end of a round too, and has no packet
	for k, c := range configs() {
		for _, seq := range edgeSeqs {
			for _, round := range edgeRounds {
				for _, from := range edgeFroms(c) {
					e := api.Emit{Seq: seq, Round: round, From: from, Acked: true, Bytes: blockOf(c, k)}
					wantTick(t, c, e, e, nil)
				}
			}
		}
	}
}

// round ticks e, which is new or at the end of a round, through the whole round of this number, and answers it then, with the symbols of its packets, one behind the other.
func round(t *testing.T, c api.Config, e api.Emit, number int) (api.Emit, []byte) {
	t.Helper()
	var symbols []byte
	for range conf.Ticks(c) {
		next, packet, err := emit.Tick(c, e)
		d, f := data.Read(packet)
		if err != api.OK || f != api.OK || d.Seq != e.Seq || d.Round != number || d.From != len(symbols) || len(d.Syms) == 0 {
			t.Fatalf("%+v, round %d behind %d symbols: %v, %d, %d", c, number, len(symbols), d, err, f)
		}
		symbols = append(symbols, d.Syms...)
		if want := (api.Emit{Seq: e.Seq, Round: number, From: len(symbols), Bytes: e.Bytes}); !same(next, want) {
			t.Fatalf("%+v: %v, not %v", c, next, want)
		}
		e = next
	}
	return e, symbols
}

func TestRounds(t *testing.T) { // P18.3: every Batch, those that divide Most and those that do not; the next round has all its symbols, too
	for _, passes := range []int{4, 7} {
		for batch := 1; batch <= api.MaxBatch; batch++ {
			c := sized(3, passes, batch)
			b := blockOf(c, batch)
			row := rowOf(t, c, b)
			e, err := emit.New(c, batch, b)
			if err != api.OK {
				t.Fatal(c, err)
			}
			for number := range 3 {
				var symbols []byte
				e, symbols = round(t, c, e, number)
				if !bytes.Equal(symbols, row) {
					t.Errorf("%+v, round %d: %x, not %x", c, number, symbols, row)
				}
			}
		}
	}
}

func TestRoundsOfAllSizes(t *testing.T) { // P18.3: every Bytes and Passes
	for size := 1; size <= api.MaxBlock; size++ {
		for passes := 4; passes <= api.MaxPasses; passes++ {
			for _, batch := range []int{1, 16, 33, api.MaxBatch} {
				c := sized(size, passes, batch)
				b := blockOf(c, passes)
				e, err := emit.New(c, size, b)
				if err != api.OK {
					t.Fatal(c, err)
				}
				if _, symbols := round(t, c, e, 0); !bytes.Equal(symbols, rowOf(t, c, b)) {
					t.Errorf("%+v: %x", c, symbols)
				}
			}
		}
	}
}

func TestRoundsComeAgain(t *testing.T) { // P18.2, P18.3: through all numbers of rounds, and from 255 on to 0
	c := sized(1, 4, 30)
	b := blockOf(c, 9)
	row := rowOf(t, c, b)
	e, err := emit.New(c, 9, b)
	if err != api.OK {
		t.Fatal(err)
	}
	for number := range 600 {
		var symbols []byte
		e, symbols = round(t, c, e, number%256)
		if !bytes.Equal(symbols, row) {
			t.Fatal(number, symbols)
		}
	}
}

func TestRoundFromWithin(t *testing.T) { // P18.3: begun at a place that is no multiple of Batch; the round behind it is whole
	for _, batch := range []int{1, 5, 9, 40, 64} {
		c := sized(4, 4, batch)
		b := blockOf(c, batch)
		row := rowOf(t, c, b)
		for from := range row {
			e := api.Emit{Seq: 2, Round: 255, From: from, Bytes: b}
			symbols := row[:from:from]
			for e.From < len(row) {
				next, packet, err := emit.Tick(c, e)
				d, f := data.Read(packet)
				if err != api.OK || f != api.OK || d.From != len(symbols) || d.Round != 255 {
					t.Fatal(batch, from, d, err, f)
				}
				symbols = append(symbols, d.Syms...)
				e = next
			}
			if _, again := round(t, c, e, 0); !bytes.Equal(symbols, row) || !bytes.Equal(again, row) {
				t.Fatal(batch, from, symbols, again)
			}
		}
	}
}

func TestOtherFieldsAreNothing(t *testing.T) { // P18.2: of right Configs, Bytes, Passes and Batch alone matter
	c := plain()
	b := blockOf(c, 8)
	row := rowOf(t, c, b)
	for _, other := range []api.Config{
		{Beam: 1, Depth: 1, Window: 1, Qs: 1, Qr: 1},
		{Beam: 16, Depth: 3, Window: 16, Qs: 16, Qr: 16, Msg: 200, Seqs: api.MaxSeq},
		{Beam: 2, Depth: 2, Window: 3, Qs: 4, Qr: 5, Msg: 6, Seqs: 7},
	} {
		other.Bytes, other.Passes, other.Batch = c.Bytes, c.Passes, c.Batch
		for from := range most(c) + 1 {
			e := api.Emit{Seq: 8, Round: 9, From: from, Bytes: b}
			next, packet := byText(t, c, e, row)
			wantTick(t, other, e, next, packet)
		}
	}
}

func TestAgain(t *testing.T) { // R3: an answer hangs neither on what was asked ahead of it nor on how often; nothing is kept
	list := configs()
	for k := len(list) - 1; k >= 0; k-- {
		c := list[k]
		b := blockOf(c, k)
		e := api.Emit{Seq: k, Round: k % 256, From: most(c) - 1, Bytes: b}
		next, packet := byText(t, c, e, rowOf(t, c, b))
		for range 2 {
			wantNew(t, c, k, b)
			wantTick(t, c, e, next, packet)
			wantWrong(t, c, api.Emit{Seq: -1, Bytes: b})
			wantNoNew(t, c, k, nil)
		}
	}
}
