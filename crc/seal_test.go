package crc_test

import (
	"bytes"
	"encoding/binary"
	"hash/crc32"
	"slices"
	"testing"

	"volute/api"
	"volute/crc"
)

// sealByHand is b and its sum behind it, at any length.
func sealByHand(b []byte) []byte {
	return binary.LittleEndian.AppendUint32(bytes.Clone(b), crc32.ChecksumIEEE(b))
}

func TestSeal(t *testing.T) { // P3.2
	for _, c := range []struct {
		text, want string
	}{
		{"123456789", "123456789\x26\x39\xf4\xcb"},
		{"", "\x00\x00\x00\x00"},
		{"\x00", "\x00\x8d\xef\x02\xd2"},
		{"\xff\xff\xff\xff", "\xff\xff\xff\xff\xff\xff\xff\xff"},
		{"\x00\x00\x00\x00", "\x00\x00\x00\x00\x1c\xdf\x44\x21"},
	} {
		got, e := crc.Seal([]byte(c.text))
		if string(got) != c.want || e != api.OK {
			t.Errorf("%q: %q, %d", c.text, got, e)
		}
	}
}

func TestSealAtLengths(t *testing.T) { // P3.2, R4
	for _, n := range append(lengths, api.MaxBytes-2, api.MaxBytes+1, 2*api.MaxBytes) {
		want, e := sealByHand(fill(n)), api.OK
		if n > api.MaxBytes-4 {
			want, e = nil, api.ErrLen
		}
		got, f := crc.Seal(fill(n))
		if !bytes.Equal(got, want) || f != e {
			t.Errorf("%d bytes: %d bytes, %d", n, len(got), f)
		}
	}
}

func TestSealTwice(t *testing.T) { // P3.2: a sealed text is a text like any other
	b := fill(api.MaxBytes - 8)
	for n := len(b); n < api.MaxBytes; n += 4 {
		once, e := crc.Seal(b)
		if !bytes.Equal(once, sealByHand(b)) || e != api.OK {
			t.Error(n, len(once), e)
		}
		b = once
	}
	if got, e := crc.Seal(b); len(got) != 0 || e != api.ErrLen {
		t.Error(len(got), e)
	}
}

func TestSealed(t *testing.T) { // P3.2, R4
	const most = api.MaxBytes
	nine := []byte("123456789\x26\x39\xf4\xcb")
	for _, c := range []struct {
		name string
		b    []byte
		is   bool
		e    api.Errno
	}{
		{"nil", nil, false, api.OK},
		{"no byte", []byte{}, false, api.OK},
		{"1 byte", []byte{0}, false, api.OK},
		{"2 bytes", []byte{0, 0}, false, api.OK},
		{"3 bytes", []byte{0, 0, 0}, false, api.OK},
		{"nothing, and its sum", []byte{0, 0, 0, 0}, true, api.OK},
		{"nothing, and another sum", []byte{0, 0, 0, 1}, false, api.OK},
		{"a nought, and nothing's sum", []byte{0, 0, 0, 0, 0}, false, api.OK},
		{"a nought, and its sum", []byte{0, 0x8d, 0xef, 0x02, 0xd2}, true, api.OK},
		{"noughts", make([]byte, 100), false, api.OK},
		{"example 1", nine, true, api.OK},
		{"one byte short", nine[:12], false, api.OK},
		{"one byte late", nine[1:], false, api.OK},
		{"one byte more", append(bytes.Clone(nine), 0), false, api.OK},
		{"the highest first", []byte("123456789\xcb\xf4\x39\x26"), false, api.OK},
		{"bits not turned about at the end", []byte("123456789\xd9\xc6\x0b\x34"), false, api.OK},
		{"bytes change places", []byte("213456789\x26\x39\xf4\xcb"), false, api.OK},
		{"longest", sealByHand(fill(most - 4)), true, api.OK},
		{"longest, not sealed", fill(most), false, api.OK},
		{"longest of noughts", make([]byte, most), false, api.OK},
		{"one more", sealByHand(fill(most - 3)), false, api.ErrLen},
		{"one more, not sealed", fill(most + 1), false, api.ErrLen},
		{"longest, sealed once more", sealByHand(sealByHand(fill(most - 4))), false, api.ErrLen},
		{"far too long", make([]byte, 2*most), false, api.ErrLen},
	} {
		if is, e := crc.Sealed(c.b); is != c.is || e != c.e {
			t.Errorf("%s: %t, %d", c.name, is, e)
		}
	}
}

func TestSealIsSealed(t *testing.T) { // P3.2
	for n := range 200 {
		for _, text := range [][]byte{fill(n), make([]byte, n), slices.Repeat([]byte{255}, n)} {
			b, e := crc.Seal(text)
			is, f := crc.Sealed(b)
			if !is || e != api.OK || f != api.OK {
				t.Error(n, is, e, f)
			}
		}
	}
}

func TestOneSeal(t *testing.T) { // P3.2: behind a text stands just one seal
	for _, n := range []int{0, 1, 20} {
		b := sealByHand(fill(n))
		for at := n; at < n+4; at++ {
			for x := range 1 << 8 {
				other := bytes.Clone(b)
				other[at] = byte(x)
				if is, e := crc.Sealed(other); is != (other[at] == b[at]) || e != api.OK {
					t.Error(n, at, x, is, e)
				}
			}
		}
	}
}
