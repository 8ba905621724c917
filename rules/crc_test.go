package rules

import (
	"slices"
	"testing"

	"volute/api"
	"volute/crc"
)

func sealed(b []byte) (int, api.Errno) {
	is, e := crc.Sealed(b)
	if is {
		return 1, e
	}
	return 0, e
}

func TestCrc(t *testing.T) {
	const most = api.MaxBytes
	seal := func(b []byte) []byte {
		out, e := crc.Seal(b)
		if e != api.OK {
			t.Fatal(len(b), e)
		}
		return out
	}
	checkLists(t, "Table16", table(crc.Table16))
	checkLists(t, "Table32", table(crc.Table32))
	for _, b := range [][]byte{
		{}, {7}, {0, 0, 0}, {0, 0, 0, 0}, {1, 2, 3, 4, 5}, []byte("123456789"), seal([]byte("123456789")), fill(100),
		fill(most - 4), fill(most - 3), seal(fill(most - 4)), fill(most), append(seal(fill(most-4)), 1), fill(most + 1),
	} {
		checkLists(t, "Sum16", number(crc.Sum16), b)
		checkLists(t, "Sum32", number(crc.Sum32), b)
		checkLists(t, "Seal", one(crc.Seal), b)
		checkLists(t, "Sealed", number(sealed), b)
	}
}

func TestCrcBehindTheLength(t *testing.T) { // a seal that stands behind the length is none of the text
	b, e := crc.Seal([]byte("123456789"))
	if e != api.OK {
		t.Fatal(e)
	}
	was := slices.Clone(b)
	for n := range b {
		if is, e := crc.Sealed(b[:n]); is || e != api.OK {
			t.Error(n, is, e)
		}
	}
	other, e := crc.Seal(b[:3])
	if !slices.Equal(other[:3], was[:3]) || len(other) != 7 || e != api.OK || !slices.Equal(b, was) {
		t.Error(other, e, b)
	}
}
