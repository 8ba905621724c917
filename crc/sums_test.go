package crc_test

import (
	"hash/crc32"
	"slices"
	"testing"

	"volute/api"
	"volute/bit"
	"volute/crc"
)

// fill is a text of n bytes in which no short row comes again soon.
func fill(n int) []byte {
	b := make([]byte, n)
	for i := range b {
		b[i] = byte(i*151 + i>>8*37 + 11)
	}
	return b
}

// lengths are those at which texts may be handled otherwise than one byte more or less.
var lengths = []int{0, 1, 2, 3, 4, 5, 7, 8, 9, 255, 256, 257, api.MaxBytes - 5, api.MaxBytes - 4, api.MaxBytes - 3, api.MaxBytes - 1, api.MaxBytes}

func TestSums(t *testing.T) { // P3.1
	for _, c := range []struct {
		text         string
		sum16, sum32 int
	}{
		{"123456789", 0x29b1, 0xcbf43926}, // example 1
		{"", 0xffff, 0},
		{"\x00", 0xe1f0, 0xd202ef8d},
		{"\xff", 0xff00, 0xff000000},
		{"\x00\x00", 0x1d0f, 0x41d912ff},
		{"\xff\xff", 0, 0xffff0000},
		{"\xff\xff\xff\xff", 0x1d0f, 0xffffffff},
		{"A", 0xb915, 0xd3d99e8b},
		{"a", 0x9d77, 0xe8b7be43},
		{"The quick brown fox jumps over the lazy dog", 0x8fdd, 0x414fa339},
	} {
		x, e := crc.Sum16([]byte(c.text))
		y, f := crc.Sum32([]byte(c.text))
		if x != c.sum16 || y != c.sum32 || e != api.OK || f != api.OK {
			t.Errorf("%q: %x, %x, %d, %d", c.text, x, y, e, f)
		}
	}
}

// sum16ByHand is Sum16 as the rest of a division, not by a register as the package does it.
func sum16ByHand(t *testing.T, b []byte) int {
	t.Helper()
	row, e := bit.Bits(b)
	if e != api.OK {
		t.Fatal(e)
	}
	return number(rest(t, dividend(row, 16), poly(0x11021)))
}

func TestSumsByHand(t *testing.T) { // P3.1
	check := func(b []byte) {
		x, e := crc.Sum16(b)
		y, f := crc.Sum32(b)
		if x != sum16ByHand(t, b) || y != int(crc32.ChecksumIEEE(b)) || e != api.OK || f != api.OK {
			t.Fatalf("%d bytes: %x, %x, %d, %d", len(b), x, y, e, f)
		}
	}
	for i := range 1 << 8 {
		check([]byte{byte(i)})
		check([]byte{7, byte(i), 9})
	}
	for n := range 100 {
		check(fill(n))
		check(make([]byte, n))
	}
	for _, n := range lengths {
		check(fill(n))
		check(slices.Repeat([]byte{255}, n))
	}
}

func TestSumsTooLong(t *testing.T) { // P3.1, R4
	for _, n := range []int{api.MaxBytes + 1, api.MaxBytes + 2, 2 * api.MaxBytes, 1 << 16} {
		for _, b := range [][]byte{fill(n), make([]byte, n)} {
			x, e := crc.Sum16(b)
			y, f := crc.Sum32(b)
			if x != 0 || y != 0 || e != api.ErrLen || f != api.ErrLen {
				t.Error(n, x, y, e, f)
			}
		}
	}
}

func TestTables(t *testing.T) { // P3.1
	table16, table32 := crc.Table16(), crc.Table32()
	if len(table16) != 256 || len(table32) != 256 {
		t.Fatal(len(table16), len(table32))
	}
	known := crc32.MakeTable(crc32.IEEE)
	for i := range 256 {
		// A register of 0 is a division of the byte alone.
		alone := number(rest(t, poly(uint64(i)<<16), poly(0x11021)))
		if table16[i] != alone || table32[i] != int(known[i]) {
			t.Errorf("%d: %x, %x", i, table16[i], table32[i])
		}
	}
	if table16[0] != 0 || table16[1] != 0x1021 || table16[128] != 0x9188 || table16[255] != 0x1ef0 {
		t.Errorf("%x", table16)
	}
	if table32[0] != 0 || table32[1] != 0x77073096 || table32[128] != 0xedb88320 || table32[255] != 0x2d02ef8d {
		t.Errorf("%x", table32)
	}
}

func TestSumsByTables(t *testing.T) { // P3.1: what the tables say of a register of 0 leads, byte by byte, to the sums
	table16, table32 := crc.Table16(), crc.Table32()
	for _, n := range lengths {
		b := fill(n)
		x, y := 0xffff, 0xffffffff
		for _, c := range b {
			x = x<<8&0xffff ^ table16[x>>8^int(c)]
			y = y>>8 ^ table32[y&255^int(c)]
		}
		sum16, e := crc.Sum16(b)
		sum32, f := crc.Sum32(b)
		if sum16 != x || sum32 != 0xffffffff^y || e != api.OK || f != api.OK {
			t.Errorf("%d bytes: %x, %x, %d, %d", n, sum16, sum32, e, f)
		}
	}
}

func TestTablesAreApart(t *testing.T) { // R2: what is done with one table touches no other one, and no sum
	b := fill(50)
	sum16, _ := crc.Sum16(b)
	sum32, _ := crc.Sum32(b)
	sealed, _ := crc.Seal(b)
	for name, table := range map[string]func() []int{"Table16": crc.Table16, "Table32": crc.Table32} {
		first, second := table(), table()
		want := slices.Clone(second)
		clear(first[:cap(first)])
		if !slices.Equal(second, want) || !slices.Equal(table(), want) {
			t.Error(name, "two calls share memory")
		}
		clear(second[:cap(second)])
	}
	x, _ := crc.Sum16(b)
	y, _ := crc.Sum32(b)
	is, _ := crc.Sealed(sealed)
	if x != sum16 || y != sum32 || !is {
		t.Errorf("%x, %x, %t", x, y, is)
	}
}
