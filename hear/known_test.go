package hear_test

import (
	"encoding/hex"
	"testing"

	"volute/api"
)

func fromHex(t *testing.T, s string) []byte {
	t.Helper()
	b, err := hex.DecodeString(s)
	if err != nil {
		t.Fatal(err)
	}
	return b
}

func TestTakeKnown(t *testing.T) { // P19.2: worked out apart from this project: rounds that are clean and such with bits turned, and which of their packets tells the block
	for _, k := range []struct {
		size, passes, beam, depth, batch, seq int
		block                                 string
		packet                                int // -1: none
		row                                   string
	}{
		{1, 4, 2, 1, 8, 3, "00000003030144017a35e5", 2, "52475711dd255422a8c50cf174a5f3eb875e8bc1fcb4e58498757ebeb5cba2d82d801d8f7a193e9eadfe7e33fc5858aaacf84f49c5c4926f5585729d6df30b8317230199700eef829437d34da9aecbb64c76f341d5df8c58"},
		{1, 4, 1, 1, 8, 3, "00000003030144017a35e5", 4, "52475711dd255422a8c50cf174a5f3eb875e8bc1fcb4e58498757ebeb5cba2d82d801d8f7a193e9eadfe7e33fc5858aaacf84f49c5c4926f5585729d6df30b8317230199700eef829437d34da9aecbb64c76f341d5df8c58"},
		{1, 4, 16, 2, 8, 3, "00000003020000fea45d8c", 2, "5247f611a65d542e3fc52ff1ab16f330235e274afcc8e584d975deb3b59fd4d8e28056f37a9c5a9e8dce7ed7fc5856aa12a04f1876c4a26f3ee772ca9ff3bf9a17710199400eb56e9482d14d48ae8e564c6d594136268ce7"},
		{1, 5, 8, 1, 10, 7, "00000007030178d1913845", 5, "527fdd118b71547067c5d1f1fe60f356e55e2e9df647e5e2437580c4b76884d968841c4f7a98be9e9d137936fcf36eaaedce4b91c4c4ad6f1dad729180f3cb8da9cf0101bf0e7df11412754df6ae53594cf9c1417f2cbcfab27bd8845c524314fcfc3083be965c60292cada152ff"},
		{1, 5, 16, 1, 10, 1073741823, "3fffffff0200001ab46630", 5, "34b5966ebf6023de0b24392941349b4ea5f7bb684e5a56e7ba6852497b280ed53d5f589a2532e6604e4b602c508b864e91713f3bd1cfbc79bc167469bb349f8b837b9fae38d245f512f8094d63b54339ca6629e1c108cff2040a08fcf6550da8a2b324da82d65b72f1568f78327e"},
		{1, 4, 1, 3, 22, 16909060, "01020304010179a80a118f", 2, "52113e9f78a24d7ee7f1a097040b159ceaec421fec51e506d2e44ea668bf71b1f57a36e13c02af30d0cd0deffcdc5295789a7c91a3fd333cffb77e98e9a9462ad63c03e5e88901e6c6d50742cfa07971c0ba51184f05aacc"},
		{2, 4, 4, 2, 12, 256, "000001000002797a3f82d7e3", 4, "5270fb11b3055425427fbec9f198fcecae605ec5eefa84b4e50f7a75a076b553181d9eca8056507a7fcd9eb12b730669fc1beaaafdd44f3bfb9b16926f82ca30d026f34e421694d78193a80ebe3c948a1ed4b216aec9f8c96cfe49165fe806ab"},
		{1, 4, 4, 1, 11, 9, "00000009030171465e3bdc", -1, "52fcd8118c04442d78cd7bf1ed73d2ba997efa6b465ee59eca757600a752665b0f84a2a67839aa9ef9b63bb8fc05bfaa51490be109e4a16fa0c1749f2ad7915cc01501e9882c287b14201c49edae46814c2feb4077171e88"},
		{16, 4, 16, 1, 64, 65536, "0001000001107369787465656e206279746573202e2e43ac8dce", 1, "521118597984d5447c1e28e98354d375afabe4cef6a6bb2e889af196e7e4ec8a46a19adec6dc45bb60ff1fe018e080b46b06e022e529369bad8e778076bf1a6ce4b52a3b0dbe1e37c0a4f3c231568022fc881ea4a628d4055315e355c9eae1f7ec8373fd9dda607dfc221c739e13ebaaed7901cdf94fe9b0d0f36dce29bfbfc9165d6f6d20db6d262e7c3fe30491234bc0066bd42bc6b6d178d45f70015ad6f36f8d65f31200dd87a794a05d5f0cb3c63ce817fe8b49ae2f61144b2334b9b770d6bf5c2b45af410d68d5e5f7f07c1aab"},
	} {
		c := sized(k.size, k.passes, k.beam, k.depth)
		row := fromHex(t, k.row)
		list := packets(k.seq, 200, row, k.batch)
		want := done(c, k.seq, 200, fromHex(t, k.block))
		if k.packet == -1 {
			want = api.Hear{Seq: k.seq, Round: 200, Pile: pileOf(c, row, span(0, len(row))...)}
		}
		if h, at := takeAll(t, c, newHear(t, c, k.seq), list); !same(h, want) || at != k.packet {
			t.Errorf("%+v: %v by %d, not %v by %d", c, h, at, want, k.packet)
		}
	}
}

func TestBeamAndDepthKnown(t *testing.T) { // P19.2: worked out likewise: which packet of four symbols tells the block hangs on both
	row := fromHex(t, "52475711dd255422a8c50cf174a5f3eb875e8bc1fcb4e58498757ebeb5cba2d82d801d8f7a193e9eadfe7e33fc5858aaacf84f49c5c4926f5585729d6df30b8317230199700eef829437d34da9aecbb64c76f341d5df8c58")
	for _, k := range []struct{ beam, depth, packet int }{{1, 1, 9}, {2, 1, 5}, {3, 1, 5}, {1, 2, 5}, {2, 2, 4}, {3, 2, 4}, {1, 3, 4}, {2, 3, 4}} {
		c := sized(1, 4, k.beam, k.depth)
		h, at := takeAll(t, c, newHear(t, c, 3), packets(3, 0, row, 4))
		if !same(h, done(c, 3, 0, fromHex(t, "00000003030144017a35e5"))) || at != k.packet {
			t.Errorf("beam %d, depth %d: %v by %d, not by %d", k.beam, k.depth, h, at, k.packet)
		}
	}
}
